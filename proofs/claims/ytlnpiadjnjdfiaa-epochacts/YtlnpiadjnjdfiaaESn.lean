/- EpochSafe: the steps of the walk, in one form. -/
import Derived.Test.YtlnpiadjnjdfiaaESm
import Derived.Test.YtlnpiadjnjdfiaaEWa
namespace Go.Proofs.Ytlnpiadjnjdfiaa.E
open Go.RowKit
set_option maxRecDepth 100000

theorem row_cell {w : World} {B n g c : Nat} {e : TypeId} {xs : List Value} (h : w.ownsRow B e 1 (.slice (some ⟨g, 0, none⟩) n c) n xs) {k : Nat} {x : Value} (hx : xs[k]? = some x) : w.cell? ⟨g, k, none⟩ = some x ∧ w.frozen? ⟨g, k, none⟩ = false := by
  obtain ⟨g', c', e1, _, _, h2, _, h3⟩ := own_cell h hx
  cases e1
  exact ⟨h2, h3⟩
theorem row_form {w : World} {B n : Nat} {e : TypeId} {u : Value} {xs : List Value} (h : w.ownsRow B e 1 u n xs) (h0 : 0 < n) : ∃ g c, u = .slice (some ⟨g, 0, none⟩) n c ∧ n ≤ c ∧ c ≤ maxLen := by
  rcases h.2 with ⟨rfl, hn⟩ | ⟨g, cap, cur, rfl, h1, h2, h3, h4, h5, h6⟩
  · omega
  · exact ⟨g, cap, rfl, h3, h4⟩
/-- All that the law keeps. -/
structure SfJ (W w : World) (b n N : Nat) (ug : Value) (j : Nat) (now : Int) (S : List Int) (v : Value) (L : List It) (ut : Value) (T : List Int) (G : List Bool) : Prop where
  m : SfM W w ⟨b, n, now, S, 0⟩ v L ut T ug G
  inv : Inv T G L
  one : 1 ≤ now
  le : now ≤ (j : Int) + 1
  tl : T.length ≤ j
  ll : L.length ≤ j
  gl : G.length = N + 1
def SfI (W w : World) (b n N : Nat) (ug : Value) (j : Nat) (ut : Value) : Prop := ∃ now S v L T G, SfJ W w b n N ug j now S v L ut T G
theorem SfJ.i {W w : World} {b n N : Nat} {ug : Value} {j : Nat} {now : Int} {S : List Int} {v : Value} {L : List It} {ut : Value} {T : List Int} {G : List Bool} (h : SfJ W w b n N ug j now S v L ut T G) : SfI W w b n N ug j ut := ⟨now, S, v, L, T, G, h⟩
theorem SfJ.later {W w : World} {b n N : Nat} {ug : Value} {j : Nat} {now : Int} {S : List Int} {v : Value} {L : List It} {ut : Value} {T : List Int} {G : List Bool} (h : SfJ W w b n N ug j now S v L ut T G) : SfJ W w b n N ug (j + 1) now S v L ut T G := ⟨h.m, h.inv, h.one, by have := h.le; omega, by have := h.tl; omega, by have := h.ll; omega, h.gl⟩
theorem SfJ.keep {W w w' : World} {b n N : Nat} {ug : Value} {j : Nat} {now : Int} {S : List Int} {v : Value} {L : List It} {ut : Value} {T : List Int} {G : List Bool} (h : SfJ W w b n N ug j now S v L ut T G) (hb : Below w.heap.size w w') : SfJ W w' b n N ug j now S v L ut T G := ⟨h.m.keep hb, h.inv, h.one, h.le, h.tl, h.ll, h.gl⟩
/-- What is given up was retired below all that is held. -/
theorem okR_slot {S : List Int} {n k : Nat} {r : It} {e : Int} (h : okR (leastZ (S.take n)) r) (hk : k < n) (hs : S[k]? = some e) (h0 : e > 0) : ¬ e ≤ r.2 := by
  have hm := mem_take_of hk hs
  rcases least_spec (S.take n) with ⟨h1, h2⟩ | ⟨h1, h2, h3, h4⟩
  · have := h2 e hm; omega
  · rcases h with h | h
    · rw [h1] at h; cases h
    · have := h4 e hm h0; omega
/-- Where all slots are free, all is given up. -/
theorem least_none {S : List Int} {n : Nat} (h : ∀ (k : Nat) (e : Int), k < n → S[k]? = some e → e = 0) : (leastZ (S.take n)).2 = false := by
  rcases least_spec (S.take n) with ⟨h1, _⟩ | ⟨_, h2, h3, _⟩
  · exact h1
  · obtain ⟨k, hk, e⟩ := of_mem_take h2
    have := h k _ hk e
    omega

theorem sf_publish {W w : World} {b n N : Nat} {ug : Value} {j : Nat} {now : Int} {S : List Int} {v : Value} {L : List It} {ut : Value} {T : List Int} {G : List Bool} (h : SfJ W w b n N ug j now S v L ut T G) (hj : j ≤ 200) : Calls Try.prog 11 #[.pointer (some ⟨b, 0, none⟩)] w fun e w' => e = .returned (.int .i64 (now + 1)) ∧ SfI W w' b n N ug (j + 1) ut := by
  have h0 : (0 : Int) ≤ now := by have := h.one; omega
  have h1 : now ≤ 1000000 := by have := h.le; omega
  exact (publish_any h.m.lv.eo h0 h1).mono fun e w' hh => ⟨hh.1, SfJ.i (now := now + 1) (S := S) ⟨h.m.op hh.2.1 rfl hh.2.2, h.inv, by have := h.one; omega, by have := h.le; omega, by have := h.tl; omega, by have := h.ll; omega, h.gl⟩⟩
theorem sf_unpin {W w : World} {b n N : Nat} {ug : Value} {j : Nat} {now : Int} {S : List Int} {v : Value} {L : List It} {ut : Value} {T : List Int} {G : List Bool} (h : SfJ W w b n N ug j now S v L ut T G) (y : Int) : Calls Try.prog 15 #[.pointer (some ⟨b, 0, none⟩), .int .i64 y] w fun e w' => (∃ v, e = .returned v) ∧ SfI W w' b n N ug (j + 1) ut :=
  (unpin_any h.m.lv.eo y).mono fun e w' hh => by
    obtain ⟨hk, hh⟩ := hh
    have hl := h.later
    split at hh
    · exact ⟨⟨_, hh.1⟩, SfJ.i ⟨h.m.op hh.2 rfl hk, hl.inv, hl.one, hl.le, hl.tl, hl.ll, hl.gl⟩⟩
    · exact ⟨⟨_, hh.1⟩, SfJ.i ⟨h.m.op hh.2 rfl hk, hl.inv, hl.one, hl.le, hl.tl, hl.ll, hl.gl⟩⟩
theorem sf_pin {W w : World} {b n N : Nat} {ug : Value} {j : Nat} {now : Int} {S : List Int} {v : Value} {L : List It} {ut : Value} {T : List Int} {G : List Bool} (h : SfJ W w b n N ug j now S v L ut T G) : Calls Try.prog 13 #[.pointer (some ⟨b, 0, none⟩)] w fun e w' => (∃ k : Nat, e = .returned (.tuple #[.int .i64 (k : Int), .int .i64 0]) ∧ SfI W w' b n N ug (j + 1) ut ∧ Calls Try.prog 26 #[.pointer (some ⟨b, 0, none⟩), .int .i64 (k : Int)] w' (fun e w'' => e = .returned (.int .i64 now) ∧ w'' = w') ∧ Calls Try.prog 23 #[.pointer (some ⟨b, 0, none⟩)] w' (fun e w'' => e = .returned (.int .i64 now) ∧ w'' = w')) ∨ (e = .returned (.tuple #[.int .i64 0, .int .i64 6]) ∧ SfI W w' b n N ug (j + 1) ut) :=
  (pin_any h.m.lv.eo).mono fun e w' hh => by
    have hl := h.later
    obtain ⟨hk, ⟨k, hf, he, ho⟩ | ⟨_, he, ho⟩⟩ := hh
    · refine .inl ⟨k, he, SfJ.i ⟨h.m.op ho rfl hk, hl.inv, hl.one, hl.le, hl.tl, hl.ll, hl.gl⟩, ?_, now_any ho.es.bx ho.n1⟩
      have hs : (S.set k now)[k]? = some now := by rw [List.getElem?_set_self (List.getElem?_eq_some_iff.1 hf.2.1).1]
      refine (pinned_any ho.es.bx ho.n1 ho.n8 k).mono fun e w'' hh => ⟨?_, hh.2⟩
      rw [hh.1]
      dsimp only
      have : pinZ n (S.set k now) (k : Int) = now := by
        unfold pinZ
        rw [if_pos (show inP n k = true from decide_eq_true ⟨by omega, by have := hf.1; dsimp only at this; omega⟩), Int.toNat_natCast, List.getD_eq_getElem?_getD, hs]
        rfl
      rw [this]
    · exact .inr ⟨he, SfJ.i ⟨h.m.op ho rfl hk, hl.inv, hl.one, hl.le, hl.tl, hl.ll, hl.gl⟩⟩
theorem sf_retire {W w : World} {b n N : Nat} {ug : Value} {j : Nat} {now : Int} {S : List Int} {v : Value} {L : List It} {ut : Value} {T : List Int} {G : List Bool} (h : SfJ W w b n N ug j now S v L ut T G) (hj : j < N) (hN : N ≤ 200) : Calls Try.prog 18 #[.pointer (some ⟨b, 0, none⟩), .int .i64 (T.length : Int)] w fun e w' => (∃ v, e = .returned v) ∧ ∃ v' K, SfM W w' ⟨b, n, now, S, 0⟩ v' K ut T ug G ∧ K.length ≤ j + 1 ∧ Inv (T ++ [now]) G K :=
  (retire_any h.m.lv.eo (by have := h.ll; omega) (T.length : Int)).mono fun e w' hh => by
    obtain ⟨he, v', K, ho, hp, hk⟩ := hh
    refine ⟨⟨_, he⟩, v', K, h.m.op ho rfl hk, ?_, (h.inv.retire (by have := h.tl; have := h.gl; omega) now).perm hp⟩
    have := hp.length_eq
    rw [List.length_append, List.length_singleton] at this
    have := h.ll
    omega
theorem pinned_slot {w : World} {X : EX} {v : Value} {L : List It} (h : EO w X v L) {k : Nat} {s : Int} (hk : k < X.n) (hs : X.S[k]? = some s) : Calls Try.prog 26 #[.pointer (some ⟨X.b, 0, none⟩), .int .i64 (k : Int)] w fun e w' => e = .returned (.int .i64 s) ∧ w' = w :=
  (pinned_any h.es.bx h.n1 h.n8 k).mono fun e w' hh => ⟨by
    rw [hh.1]
    have : pinZ X.n X.S (k : Int) = s := by
      unfold pinZ
      rw [if_pos (show inP X.n k = true from decide_eq_true ⟨by omega, by omega⟩), Int.toNat_natCast, List.getD_eq_getElem?_getD, hs]
      rfl
    rw [this], hh.2⟩
/-- What is given up, with what stays as it was. -/
structure SfR (W w : World) (b n N : Nat) (ug : Value) (j : Nat) (now : Int) (S : List Int) (v : Value) (K : List It) (ut : Value) (T : List Int) (G : List Bool) (B : Nat) (u : Value) (R : List It) (i : Nat) : Prop where
  m : SfM W w ⟨b, n, now, S, 0⟩ v K ut T ug G
  inv : Inv T G (R.drop i ++ K)
  kl : K.length ≤ j
  gl : G.length = N + 1
  row : w.ownsRow B 3 1 u R.length (R.map idV)
  far : ∀ g, ug.ownBlock = some g → g < B
theorem sf_reclaim {W w : World} {b n N : Nat} {ug : Value} {j : Nat} {now : Int} {S : List Int} {v : Value} {L : List It} {ut : Value} {T : List Int} {G : List Bool} (h : SfJ W w b n N ug j now S v L ut T G) (hj : j ≤ 200) : Calls Try.prog 20 #[.pointer (some ⟨b, 0, none⟩)] w fun e w' => ∃ u v' K R B, e = .returned u ∧ SfR W w' b n N ug j now S v' K ut T G B u R 0 ∧ (∀ r ∈ R, okR (leastZ (S.take n)) r) ∧ (∀ k ∈ K, ¬ okR (leastZ (S.take n)) k) ∧ R.length ≤ j :=
  (reclaim_any h.m.lv.eo (by have := h.ll; omega)).mono fun e w' hh => by
    obtain ⟨u, he, v', K, R, hu, ho, hp, hok, hend, _, hk, _⟩ := hh
    refine ⟨u, v', K, R, w.heap.size, he, ⟨h.m.op ho rfl hk, h.inv.perm hp, ?_, h.gl, hu, fun g e => (h.m.gn.lt g e).2⟩, hok, hend, ?_⟩
    · have := hp.length_eq
      rw [List.length_append] at this
      have := h.ll
      omega
    · have := hp.length_eq
      rw [List.length_append] at this
      have := h.ll
      omega
/-- One of what is given up. -/
theorem SfR.next {W w : World} {b n N : Nat} {ug : Value} {j : Nat} {now : Int} {S : List Int} {v : Value} {K : List It} {ut : Value} {T : List Int} {G : List Bool} {B : Nat} {u : Value} {R : List It} {i : Nat} (h : SfR W w b n N ug j now S v K ut T G B u R i) (hi : i < R.length) {g : Nat} (hg : ug.ownBlock = some g) : ∃ (k : Nat) (e : Int), R[i]? = some ((k : Int), e) ∧ T[k]? = some e ∧ G[k]? = some false ∧ k < N + 1 ∧ k < T.length ∧ ∀ w', w' = w.setCell ⟨g, k, none⟩ (.bool true) → SfR W w' b n N ug j now S v K ut T (G.set k true) B u R (i + 1) := by
  have hinv := h.inv
  rw [List.drop_eq_getElem_cons hi, List.cons_append] at hinv
  obtain ⟨k, h1, h2, h3, h4⟩ := hinv.give
  have hk := (List.getElem?_eq_some_iff.1 h3).1
  rw [h.gl] at hk
  refine ⟨k, R[i].2, by rw [List.getElem?_eq_getElem hi, ← h1], h2, h3, hk, (List.getElem?_eq_some_iff.1 h2).1, fun w' hw => ?_⟩
  subst hw
  refine ⟨h.m.set hg k true, h4, h.kl, by rw [List.length_set]; exact h.gl, ownsRow_keep h.row (fun q _ e => Below.heap_setCell w ⟨g, k, none⟩ _ q (fun e2 => ?_)), h.far⟩
  have h5 := (h.row.lt q e).1
  have h6 := h.far g hg
  simp only [] at e2
  omega
theorem SfR.done {W w : World} {b n N : Nat} {ug : Value} {j : Nat} {now : Int} {S : List Int} {v : Value} {K : List It} {ut : Value} {T : List Int} {G : List Bool} {B : Nat} {u : Value} {R : List It} (h : SfR W w b n N ug j now S v K ut T G B u R R.length) (h1 : 1 ≤ now) (h2 : now ≤ (j : Int) + 1) (h3 : T.length ≤ j) : SfJ W w b n N ug j now S v K ut T G := by
  have hi := h.inv
  rw [List.drop_length, List.nil_append] at hi
  exact ⟨h.m, hi, h1, h2, h3, h.kl, h.gl⟩
theorem SfR.keep {W w w' : World} {b n N : Nat} {ug : Value} {j : Nat} {now : Int} {S : List Int} {v : Value} {K : List It} {ut : Value} {T : List Int} {G : List Bool} {B : Nat} {u : Value} {R : List It} {i : Nat} (h : SfR W w b n N ug j now S v K ut T G B u R i) (hb : Below w.heap.size w w') : SfR W w' b n N ug j now S v K ut T G B u R i :=
  ⟨h.m.keep hb, h.inv, h.kl, h.gl, ownsRow_below h.row hb, h.far⟩
theorem sf_free {W w : World} {b n N : Nat} {ug : Value} {j : Nat} {now : Int} {S : List Int} {v : Value} {L : List It} {ut : Value} {T : List Int} {G : List Bool} (h : SfJ W w b n N ug j now S v L ut T G) {s : Nat} (hs : s < n) (hz : ∀ (i : Nat) (e : Int), i < s → S[i]? = some e → e = 0) : Calls Try.prog 15 #[.pointer (some ⟨b, 0, none⟩), .int .i64 (s : Int)] w fun e w' => (∃ v, e = .returned v) ∧ ∃ S', SfJ W w' b n N ug j now S' v L ut T G ∧ ∀ (i : Nat) (e : Int), i < s + 1 → S'[i]? = some e → e = 0 :=
  (unpin_any h.m.lv.eo s).mono fun e w' hh => by
    obtain ⟨hk, hh⟩ := hh
    dsimp only at hh
    split at hh
    · rename_i h0
      refine ⟨⟨_, hh.1⟩, S, ⟨h.m.op hh.2 rfl hk, h.inv, h.one, h.le, h.tl, h.ll, h.gl⟩, fun i e hi he => ?_⟩
      by_cases e1 : i = s
      · subst e1
        unfold pinZ at h0
        rw [if_pos (show inP n i = true from decide_eq_true ⟨by omega, by omega⟩), Int.toNat_natCast, List.getD_eq_getElem?_getD, he] at h0
        exact h0
      · exact hz i e (by omega) he
    · refine ⟨⟨_, hh.1⟩, S.set s 0, ⟨h.m.op hh.2 rfl hk, h.inv, h.one, h.le, h.tl, h.ll, h.gl⟩, fun i e hi he => ?_⟩
      by_cases e1 : i = s
      · subst e1
        by_cases hl : i < S.length
        · rw [List.getElem?_set_self hl] at he
          exact (Option.some.inj he).symm
        · have := (List.getElem?_eq_some_iff.1 he).1
          rw [List.length_set] at this
          omega
      · rw [List.getElem?_set_ne (Ne.symm e1)] at he
        exact hz i e (by omega) he
end Go.Proofs.Ytlnpiadjnjdfiaa.E
