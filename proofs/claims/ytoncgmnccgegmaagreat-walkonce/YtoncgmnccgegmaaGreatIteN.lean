/- An iterator's own rows and its caller's: what each leaves to the other; the order in which elements are told. dom.Doc's Node of an element: its Kids lie in new memory. walk's Under: what its iterator tells. -/
import Derived.Test.YtoncgmnccgegmaaGreatRngN
import Derived.Test.YtoncgmnccgegmaaGreatWcpN
import Derived.Test.YtoncgmnccgegmaaGreatPakN
import Derived.Deep.RegionLaw
import Derived.WalkMore
import Derived.Deep.LoopGhost
namespace Go.Proofs.YtoncgmnccgegmaaGreat.N
open Go.RowKit Go.Shelf
set_option maxRecDepth 100000

/-- The caller's variable in block bl is a slice that lies in block k. -/
def ownedBy (bl : Nat) (A : World) (k : Nat) : Prop := ∃ x n c, A.cell? ⟨bl, 0, none⟩ = some (.slice (some x) n c) ∧ x.block = k
/-- What the iterator finds. -/
structure Ust (n0 bl : Nat) (A : World) : Prop where
  bl0 : n0 ≤ bl
  bl1 : bl < A.heap.size
  own : ∀ k, ownedBy bl A k → n0 ≤ k ∧ k < A.heap.size
/-- What the iterator leaves to its caller. -/
structure ItS (n0 bl : Nat) (A B : World) : Prop where
  below : Below n0 A B
  same : ∀ k o, A.heap[k]? = some o → (o.isCells = false ∨ k = bl ∨ ownedBy bl A k) → B.heap[k]? = some o
/-- What a round leaves to the iterator. -/
structure KpS (n0 bl : Nat) (A B : World) : Prop where
  below : Below n0 A B
  same : ∀ k o, A.heap[k]? = some o → o.isCells = true → k ≠ bl → ¬ ownedBy bl A k → B.heap[k]? = some o
  own : (∀ k, ownedBy bl A k → k < A.heap.size) → ∀ k, ownedBy bl B k → (ownedBy bl A k ∨ A.heap.size ≤ k) ∧ k < B.heap.size
/-- A block of the iterator's own. -/
def Fr (bl : Nat) (A : World) (k : Nat) : Prop := k ≠ bl ∧ ¬ ownedBy bl A k
theorem KpS.trans {n0 bl : Nat} {A B C : World} (h : KpS n0 bl A B) (k : KpS n0 bl B C) : (∀ j, ownedBy bl A j → j < A.heap.size) → KpS n0 bl A C := fun ho => by
  have ho2 : ∀ j, ownedBy bl B j → j < B.heap.size := fun j hj => (h.own ho j hj).2
  refine ⟨h.below.trans k.below, fun i o hi hc hn hf => ?_, fun _ j hj => ?_⟩
  · refine k.same i o (h.same i o hi hc hn hf) hc hn fun hb => ?_
    rcases (h.own ho i hb).1 with h1 | h1
    · exact hf h1
    · have := (Array.getElem?_eq_some_iff.1 hi).1
      omega
  · obtain ⟨h1, h2⟩ := k.own ho2 j hj
    refine ⟨?_, h2⟩
    rcases h1 with h1 | h1
    · exact (h.own ho j h1).1
    · exact .inr (Nat.le_trans h.below.size h1)
theorem Ust.kp {n0 bl : Nat} {A B : World} (u : Ust n0 bl A) (h : KpS n0 bl A B) : Ust n0 bl B :=
  ⟨u.bl0, Nat.lt_of_lt_of_le u.bl1 h.below.size, fun k hk => by
    obtain ⟨h1, h2⟩ := h.own (fun j hj => (u.own j hj).2) k hk
    refine ⟨?_, h2⟩
    rcases h1 with h1 | h1
    · exact (u.own k h1).1
    · have := u.bl1
      have := u.bl0
      omega⟩
theorem Fr.kp {n0 bl k : Nat} {A B : World} (u : Ust n0 bl A) (h : KpS n0 bl A B) (f : Fr bl A k) (hk : k < A.heap.size) : Fr bl B k :=
  ⟨f.1, fun hb => by
    rcases (h.own (fun j hj => (u.own j hj).2) k hb).1 with h1 | h1
    · exact f.2 h1
    · omega⟩
theorem owned_below {bl k : Nat} {A B : World} (hl : bl < A.heap.size) (hb : Below A.heap.size A B) : ownedBy bl B k ↔ ownedBy bl A k := by
  unfold ownedBy
  rw [hb.cell (p := ⟨bl, 0, none⟩) hl]
theorem Ust.bw {n0 bl : Nat} {A B : World} (u : Ust n0 bl A) (h : Below A.heap.size A B) : Ust n0 bl B :=
  ⟨u.bl0, Nat.lt_of_lt_of_le u.bl1 h.size, fun k hk => by
    obtain ⟨h1, h2⟩ := u.own k ((owned_below u.bl1 h).1 hk)
    exact ⟨h1, Nat.lt_of_lt_of_le h2 h.size⟩⟩
theorem Fr.bw {n0 bl k : Nat} {A B : World} (u : Ust n0 bl A) (h : Below A.heap.size A B) (f : Fr bl A k) : Fr bl B k := ⟨f.1, fun hb => f.2 ((owned_below u.bl1 h).1 hb)⟩
theorem Fr.new {n0 bl k : Nat} {A : World} (u : Ust n0 bl A) (hk : A.heap.size ≤ k) : Fr bl A k := ⟨by have := u.bl1; omega, fun h => by have := (u.own k h).2; omega⟩
theorem ItS.bw {n0 bl : Nat} {A B : World} (hn : n0 ≤ A.heap.size) (h : Below A.heap.size A B) : ItS n0 bl A B :=
  ⟨h.mono hn, fun _ _ hk _ => (h.block _ (Array.getElem?_eq_some_iff.1 hk).1).trans hk⟩
theorem ItS.trans {n0 bl : Nat} {A B C : World} (u : Ust n0 bl A) (h : ItS n0 bl A B) (k : ItS n0 bl B C) : ItS n0 bl A C := by
  refine ⟨h.below.trans k.below, fun i o hi ho => ?_⟩
  have hB := h.same i o hi ho
  refine k.same i o hB ?_
  rcases ho with ho | ho | ho
  · exact .inl ho
  · exact .inr (.inl ho)
  · refine .inr (.inr ?_)
    obtain ⟨o1, ho1⟩ : ∃ o1, A.heap[bl]? = some o1 := ⟨_, Array.getElem?_eq_getElem u.bl1⟩
    have hb := h.same bl o1 ho1 (.inr (.inl rfl))
    obtain ⟨x, n, c, hc, hx⟩ := ho
    exact ⟨x, n, c, by rw [World.cell?_of_block (a := ⟨bl, 0, none⟩) (hb.trans ho1.symm)]; exact hc, hx⟩
/-- A row of numbers of the iterator's own. -/
def SlAt (bl : Nat) (A : World) (v : Value) (l : List Int) : Prop := ∃ a c, v = .slice a l.length c ∧ RowAt A 1 a l.length c (intsV l) ∧ ∀ x, a = some x → Fr bl A x.block
theorem cells_of_cell {A : World} {b o : Nat} {u : Value} (h : A.cell? ⟨b, o, none⟩ = some u) : ∃ ob : Obj, A.heap[b]? = some ob ∧ ob.isCells = true := by
  unfold World.cell? at h
  cases hb : A.heap[b]? with
  | none => simp [hb] at h
  | some ob =>
    cases ob <;> simp [hb] at h
    exact ⟨_, rfl, rfl⟩
theorem SlAt.bw {n0 bl : Nat} {A B : World} {v : Value} {l : List Int} (u : Ust n0 bl A) (h : Below A.heap.size A B) (s : SlAt bl A v l) : SlAt bl B v l := by
  obtain ⟨a, c, e, hr, hf⟩ := s
  exact ⟨a, c, e, hr.keep h, fun x hx => (hf x hx).bw u h⟩
theorem SlAt.kp {n0 bl : Nat} {A B : World} {v : Value} {l : List Int} (u : Ust n0 bl A) (h : KpS n0 bl A B) (s : SlAt bl A v l) : SlAt bl B v l := by
  obtain ⟨a, c, e, ⟨h1, h2, h3, h4, h5⟩, hf⟩ := s
  refine ⟨a, c, e, ⟨h1, h2, h3, h4, ?_⟩, fun x hx => ?_⟩
  · rcases h5 with h5 | ⟨b, off, e1, hl, hc⟩
    · exact .inl h5
    · refine .inr ⟨b, off, e1, Nat.lt_of_lt_of_le hl h.below.size, fun j w hw => ?_⟩
      have hcell := hc j w hw
      obtain ⟨ob, hob, hic⟩ := cells_of_cell hcell
      have hfr := hf ⟨b, off, none⟩ e1
      exact (World.cell?_of_block (a := ⟨b, off + j, none⟩) ((h.same b ob hob hic hfr.1 hfr.2).trans hob.symm)).trans hcell
  · rcases h5 with ⟨e0, _⟩ | ⟨b, off, e1, hl, _⟩
    · rw [e0] at hx
      cases hx
    · rw [e1] at hx
      cases hx
      exact (hf _ e1).kp u h hl
/-- The iterator's lists that are left, the last one first to go. -/
def LfAt (n1 bl : Nat) (A : World) (v : Value) (st : List (List Int)) : Prop := ∃ vs : List Value, A.ownsRow n1 29 1 v st.length vs ∧ vs.length = st.length ∧ (∀ g, v.ownBlock = some g → Fr bl A g) ∧ ∀ i (h : i < st.length) (h' : i < vs.length), SlAt bl A vs[i] st[i] ∧ ∀ x n c g, vs[i] = .slice (some x) n c → v.ownBlock = some g → x.block ≠ g
theorem LfAt.bw {n0 n1 bl : Nat} {A B : World} {v : Value} {st : List (List Int)} (u : Ust n0 bl A) (h : Below A.heap.size A B) (s : LfAt n1 bl A v st) : LfAt n1 bl B v st := by
  obtain ⟨vs, h1, h2, h3, h4⟩ := s
  exact ⟨vs, ownsRow_below h1 h, h2, fun g hg => (h3 g hg).bw u h, fun i hi hi' => ⟨(h4 i hi hi').1.bw u h, (h4 i hi hi').2⟩⟩
theorem LfAt.kp {n0 n1 bl : Nat} {A B : World} {v : Value} {st : List (List Int)} (u : Ust n0 bl A) (h : KpS n0 bl A B) (s : LfAt n1 bl A v st) : LfAt n1 bl B v st := by
  obtain ⟨vs, h1, h2, h3, h4⟩ := s
  refine ⟨vs, ?_, h2, fun g hg => (h3 g hg).kp u h (h1.lt g hg).2, fun i hi hi' => ⟨(h4 i hi hi').1.kp u h, (h4 i hi hi').2⟩⟩
  obtain ⟨hl, hc⟩ := h1
  refine ⟨hl, ?_⟩
  rcases hc with hc | ⟨g, cap, cur, e, k1, k2, k3⟩
  · exact .inl hc
  · have hf := h3 g (by rw [e]; rfl)
    exact .inr ⟨g, cap, cur, e, k1, h.same g _ k2 rfl hf.1 hf.2, k3⟩
/-- The last list is taken away. -/
theorem LfAt.pop {n1 bl : Nat} {A : World} {v : Value} {st : List (List Int)} {l : List Int} (s : LfAt n1 bl A v (st ++ [l])) : ∃ g cap lv, v = .slice (some ⟨g, 0, none⟩) (st.length + 1) cap ∧ st.length + 1 ≤ cap ∧ cap ≤ maxLen ∧ g < A.heap.size ∧ A.cell? ⟨g, st.length, none⟩ = some lv ∧ SlAt bl A lv l ∧ (∀ x n c, lv = .slice (some x) n c → x.block ≠ g) ∧ LfAt n1 bl A (.slice (some ⟨g, 0, none⟩) st.length cap) st := by
  obtain ⟨vs, h1, h2, h3, h4⟩ := s
  rw [List.length_append, List.length_singleton] at h1 h2
  rcases h1.2 with ⟨_, h0⟩ | ⟨g, cap, cur, rfl, k1, k2, k3, k4, k5, k6⟩
  · omega
  · have hlt : st.length < vs.length := by omega
    have hcur : cur[st.length]? = some vs[st.length] := by
      have h7 : (cur.toList.take ((st.length + 1) * 1))[st.length]? = vs[st.length]? := by rw [k6]
      rw [List.getElem?_take_of_lt (by omega), Array.getElem?_toList, List.getElem?_eq_getElem hlt] at h7
      exact h7
    have hlast := h4 st.length (by simp) hlt
    have hst : (st ++ [l])[st.length]'(by simp) = l := by simp
    rw [hst] at hlast
    refine ⟨g, cap, vs[st.length], rfl, k3, k4, (Array.getElem?_eq_some_iff.1 k2).1, ?_, hlast.1, fun x n c e => hlast.2 x n c g e rfl, vs.take st.length, ⟨by simp; omega, .inr ⟨g, cap, cur, rfl, k1, k2, by omega, k4, k5, ?_⟩⟩, by simp; omega, fun g' hg' => h3 g' hg', fun i hi hi' => ?_⟩
    · simp only [World.cell?, k2]
      exact hcur
    · rw [← k6, List.take_take]
      congr 1
      omega
    · have hi2 : i < vs.length := by omega
      have := h4 i (by simp; omega) hi2
      rw [List.getElem_append_left hi] at this
      rw [List.getElem_take]
      exact ⟨this.1, fun x n c g' e hg' => this.2 x n c g' e hg'⟩
/-- Two lists more. -/
theorem LfAt.push {n0 n1 bl : Nat} {A B : World} {v v' : Value} {st : List (List Int)} {l1 l2 : List Int} {v1 v2 : Value} {vs : List Value} (u : Ust n0 bl A) (hn : n0 ≤ n1) (h1 : A.ownsRow n1 29 1 v st.length vs) (h2 : vs.length = st.length) (h3 : ∀ g, v.ownBlock = some g → Fr bl A g) (h4 : ∀ i (h : i < st.length) (h' : i < vs.length), SlAt bl A vs[i] st[i] ∧ ∀ x n c g, vs[i] = .slice (some x) n c → v.ownBlock = some g → x.block ≠ g)
    (s1 : SlAt bl A v1 l1) (f1 : ∀ x n c g, v1 = .slice (some x) n c → v.ownBlock = some g → x.block ≠ g) (s2 : SlAt bl A v2 l2) (f2 : ∀ x n c g, v2 = .slice (some x) n c → v.ownBlock = some g → x.block ≠ g)
    (hown : B.ownsRow n1 29 1 v' (st.length + 2) (vs ++ [v1, v2])) (hgr : A.grownBy B v.ownBlock) (hat : v'.ownBlock = v.ownBlock ∨ v'.ownBlock = some A.heap.size) : LfAt n1 bl B v' (st ++ [l1, l2]) ∧ Ust n0 bl B ∧ ItS n0 bl A B ∧ (∀ k, Fr bl A k → Fr bl B k) ∧ ∀ k, k < A.heap.size → v.ownBlock ≠ some k → B.heap[k]? = A.heap[k]? := by
  have hoth : ∀ k, k < A.heap.size → v.ownBlock ≠ some k → B.heap[k]? = A.heap[k]? := fun k hk hne => hgr.block k hk fun e => hne e.symm
  have hbl : v.ownBlock ≠ some bl := fun e => (h3 bl e).1 rfl
  have hblk : B.heap[bl]? = A.heap[bl]? := hoth bl u.bl1 hbl
  have howned : ∀ k, ownedBy bl B k ↔ ownedBy bl A k := fun k => by
    unfold ownedBy
    rw [World.cell?_of_block (a := ⟨bl, 0, none⟩) hblk]
  have hfr : ∀ k, Fr bl A k → Fr bl B k := fun k f => ⟨f.1, fun h => f.2 ((howned k).1 h)⟩
  have uB : Ust n0 bl B := ⟨u.bl0, Nat.lt_of_lt_of_le u.bl1 hgr.size, fun k hk => by
    obtain ⟨h5, h6⟩ := u.own k ((howned k).1 hk)
    exact ⟨h5, Nat.lt_of_lt_of_le h6 hgr.size⟩⟩
  have hsl : ∀ (w : Value) (l : List Int), SlAt bl A w l → (∀ x n c g, w = .slice (some x) n c → v.ownBlock = some g → x.block ≠ g) → SlAt bl B w l ∧ ∀ x n c g, w = .slice (some x) n c → v'.ownBlock = some g → x.block ≠ g := fun w l s f => by
    obtain ⟨a, c, rfl, hr, hf⟩ := s
    refine ⟨⟨a, c, rfl, hr.stay (P := fun k => v.ownBlock ≠ some k) hgr.size hoth (fun x hx e => ?_), fun x hx => hfr _ (hf x hx)⟩, fun x n c' g e hg => ?_⟩
    · exact f x l.length c x.block (by rw [hx]) e rfl
    · injection e with e1 e2 e3
      rcases hat with h7 | h7
      · exact f x n c' g (by rw [e1, e2, e3]) (by rw [← h7]; exact hg)
      · rw [h7] at hg
        injection hg with hg
        rcases hr.2.2.2.2 with ⟨e0, _⟩ | ⟨b, off, e0, hl, _⟩
        · rw [e0] at e1
          cases e1
        · rw [e0] at e1
          injection e1 with e1
          rw [← e1]
          show b ≠ g
          omega
  refine ⟨⟨vs ++ [v1, v2], by rw [List.length_append]; exact hown, by simp [h2], fun g hg => ?_, fun i hi hi' => ?_⟩, uB, ⟨⟨hgr.os, hgr.tape, hgr.output, hgr.size, fun k hk => ?_⟩, fun k o hk ho => ?_⟩, hfr, hoth⟩
  · rcases hat with h7 | h7
    · exact hfr g (h3 g (by rw [← h7]; exact hg))
    · rw [h7] at hg
      injection hg with hg
      exact hfr g (Fr.new u (by omega))
  · by_cases hlt : i < st.length
    · rw [List.getElem_append_left (by omega), List.getElem_append_left hlt]
      obtain ⟨q1, q2⟩ := h4 i hlt (by omega)
      exact hsl _ _ q1 q2
    · have hi2 : i = st.length ∨ i = st.length + 1 := by simp at hi; omega
      rcases hi2 with rfl | rfl
      · rw [List.getElem_append_right (by omega), List.getElem_append_right (by omega)]
        simp only [h2, Nat.sub_self, List.getElem_cons_zero]
        exact hsl _ _ s1 f1
      · rw [List.getElem_append_right (by omega), List.getElem_append_right (by omega)]
        simp only [h2, Nat.add_sub_cancel_left, List.getElem_cons_succ, List.getElem_cons_zero]
        exact hsl _ _ s2 f2
  · refine hoth k (by have := u.bl0; have := u.bl1; omega) fun e => ?_
    have := (h1.lt k e).1
    omega
  · refine (hoth k (Array.getElem?_eq_some_iff.1 hk).1 fun e => ?_).trans hk
    have hf := h3 k e
    rcases ho with ho | ho | ho
    · rcases h1.2 with ⟨e1, _⟩ | ⟨g, cap, cur, e1, _, k2, _⟩
      · rw [e1] at e
        cases e
      · rw [e1] at e
        injection e with e
        subst e
        rw [hk] at k2
        injection k2 with k2
        subst k2
        cases ho
    · exact hf.1 ho
    · exact hf.2 ho

/-- An element and all below it, in the order in which they stand. -/
def preL (m : M) : Nat → Int → List Int
  | 0, _ => []
  | f + 1, id => match m id with
    | none => []
    | some e => id :: e.ks.flatMap (preL m f)
def preO (m : M) (id : Int) : List Int := preL m 513 id
theorem preL_none {m : M} {f : Nat} {id : Int} (h : m id = none) : preL m f id = [] := by
  cases f with
  | zero => rfl
  | succ f => rw [preL, h]
theorem preL_some {m : M} {f : Nat} {id : Int} {e : El} (h : m id = some e) : preL m (f + 1) id = id :: e.ks.flatMap (preL m f) := by rw [preL, h]
theorem flatMap_congr {f g : Int → List Int} : ∀ {l : List Int}, (∀ x ∈ l, f x = g x) → l.flatMap f = l.flatMap g
  | [], _ => rfl
  | x :: l, h => by rw [List.flatMap_cons, List.flatMap_cons, h x (by simp), flatMap_congr fun y hy => h y (by simp [hy])]
theorem preL_stable {uok : List (ByteArray × ByteArray) → Prop} {m : M} {nx : Int} {d : Int → Nat} (I : Inv uok m nx d) : ∀ (f g : Nat) (n : Int), (∀ e, m n = some e → 513 ≤ d n + f ∧ 513 ≤ d n + g) → preL m f n = preL m g n
  | f, g, n, h => by
    cases hm : m n with
    | none => rw [preL_none hm, preL_none hm]
    | some e =>
      obtain ⟨h1, h2⟩ := h e hm
      have ht := I.top hm
      obtain ⟨f', rfl⟩ : ∃ f', f = f' + 1 := ⟨f - 1, by omega⟩
      obtain ⟨g', rfl⟩ : ∃ g', g = g' + 1 := ⟨g - 1, by omega⟩
      rw [preL_some hm, preL_some hm]
      congr 1
      refine flatMap_congr fun k hk => preL_stable I f' g' k fun c hc => ?_
      obtain ⟨c', hc', hp⟩ := I.kid hm hk
      have hk1 := I.kidne hm hk
      have := I.dep hc' hk1
      rw [hp] at this
      omega
theorem preO_none {m : M} {id : Int} (h : m id = none) : preO m id = [] := preL_none h
theorem preO_some {uok : List (ByteArray × ByteArray) → Prop} {m : M} {nx : Int} {d : Int → Nat} (I : Inv uok m nx d) {id : Int} {e : El} (h : m id = some e) : preO m id = id :: e.ks.flatMap (preO m) := by
  unfold preO
  rw [preL_some h]
  congr 1
  refine flatMap_congr fun k hk => preL_stable I 512 513 k fun c hc => ?_
  obtain ⟨c', hc', hp⟩ := I.kid h hk
  have := I.pos hc'
  omega
/-- What is left to be told. -/
def restS (m : M) : List (List Int) → List Int
  | [] => []
  | l :: r => restS m r ++ l.flatMap (preO m)
theorem restS_app (m : M) : ∀ (a b : List (List Int)), restS m (a ++ b) = restS m b ++ restS m a
  | [], b => by simp [restS]
  | l :: a, b => by rw [List.cons_append, restS, restS, restS_app m a b, List.append_assoc]
theorem restS_snoc (m : M) (a : List (List Int)) (l : List Int) : restS m (a ++ [l]) = l.flatMap (preO m) ++ restS m a := by rw [restS_app]; simp [restS]
theorem restS_two (m : M) (a : List (List Int)) (l k : List Int) : restS m (a ++ [l, k]) = k.flatMap (preO m) ++ l.flatMap (preO m) ++ restS m a := by rw [restS_app]; simp [restS]

end Go.Proofs.YtoncgmnccgegmaaGreat.N
namespace Go.Proofs.YtoncgmnccgegmaaGreat.N
open Go.RowKit
set_option maxRecDepth 100000

set_option maxHeartbeats 1000000 in
theorem node_0n {w : World} {dp : Value} (n : Int) (s : N5) {ks us : List Value} (hfind : ∀ W, Below w.heap.size w W → Calls Tryz.prog 46 #[dp, .int .i64 n] W fun e w' => e = .returned (.tuple #[s.val, .int .i64 0]) ∧ Below W.heap.size W w') (hk : RowAt w 1 s.ka s.kn s.kc ks) (ha : RowAt w 2 s.aa s.an s.ac us) (h1 : s.kn ≤ 300000) (h2 : s.an ≤ 300000) :
    Calls Tryz.prog 26 #[dp, .int .i64 n] w fun e w' => ∃ a' c' b' d', e = .returned (.tuple #[N5.val ⟨s.id, s.tag, s.par, a', s.kn, c', b', s.an, d'⟩, .bool true]) ∧ RowAt w' 1 a' s.kn c' ks ∧ RowAt w' 2 b' s.an d' us ∧ NewAt w.heap.size a' ∧ Below w.heap.size w w' := by
  have hal : Below w.heap.size w (w.alloc (.cells #[.int .i64 0, .string ⟨#[]⟩, .int .i64 0, .slice none 0 0, .slice none 0 0] 47)) := (Below.refl _ w).alloc (Nat.le_refl _) _
  have hx := heap_alloc_last w (.cells #[.int .i64 0, .string ⟨#[]⟩, .int .i64 0, .slice none 0 0, .slice none 0 0] 47)
  have hf := hfind _ hal
  have HX := hid_mk hx
  have HAL := hid_mk hal
  have HK := hid_mk hk
  have HA := hid_mk ha
  clear hfind hx hal hk ha
  go_enter Tryz.func26, Tryz.ntmps26
  go_wp2_with (go_at_call 46; fail)
  generalize w.alloc (.cells #[.int .i64 0, .string ⟨#[]⟩, .int .i64 0, .slice none 0 0, .slice none 0 0] 47) = WR at *
  refine hf.mono ?_
  rintro e w1 ⟨rfl, hb1⟩
  have hB1 : Below w.heap.size w w1 := HAL.out.trans (hb1.mono HAL.out.size)
  have hwr : w.heap.size < WR.heap.size := (Array.getElem?_eq_some_iff.1 HX.out).1
  have hR := (hb1.block w.heap.size hwr).trans HX.out
  obtain ⟨id0, tag0, par0, ka, kn, kc, aa, an, ac⟩ := s
  dsimp only at *
  rw [show N5.val ⟨id0, tag0, par0, ka, kn, kc, aa, an, ac⟩ = .agg #[.int .i64 id0, .string tag0, .int .i64 par0, .slice ka kn kc, .slice aa an ac] from rfl]
  have HB1 := hid_mk hB1
  have HR := hid_mk hR
  clear hb1 hf hR hB1 HX HAL
  go_wp2
  have hA : Below w.heap.size w (w1.alloc (.cells #[.int .i64 id0, .string tag0, .int .i64 par0, .slice ka kn kc, .slice aa an ac] 47)) := HB1.out.alloc HB1.out.size _
  have hN : NodeAt (w1.alloc (.cells #[.int .i64 id0, .string tag0, .int .i64 par0, .slice ka kn kc, .slice aa an ac] 47)) w1.heap.size ⟨id0, tag0, par0, ka, kn, kc, aa, an, ac⟩ := heap_alloc_last w1 _
  have hRl := (Array.getElem?_eq_some_iff.1 HR.out).1
  have hR2 := (((Below.refl w1.heap.size w1).alloc (Nat.le_refl _) (.cells #[.int .i64 id0, .string tag0, .int .i64 par0, .slice ka kn kc, .slice aa an ac] 47)).block w.heap.size hRl).trans HR.out
  generalize hg : w1.heap.size = g at *
  generalize w1.alloc (.cells #[.int .i64 id0, .string tag0, .int .i64 par0, .slice ka kn kc, .slice aa an ac] 47) = W2 at *
  obtain ⟨⟨k0, k1, k2, k3, k4⟩, f0, f1, f2, f3, f4, hl⟩ := hN.cells
  dsimp only at k0 k1 k2 k3 k4
  have HC1 : Hid (∀ W, Below W2.heap.size W2 W → Calls Tryz.prog 47 #[.slice ka kn kc] W fun e w' => ∃ a' c', e = .returned (.slice a' kn c') ∧ w'.cell? ⟨g, 4, none⟩ = some (.slice aa an ac) ∧ Hid (RowAt w' 1 a' kn c' ks) ∧ Hid (NewAt W2.heap.size a') ∧ Below W2.heap.size W2 w') := by
    intro W hW
    have hW0 : Below w.heap.size w W := hA.trans (hW.mono hA.size)
    refine (cloneI (HK.out.keep hW0) (by omega)).mono ?_
    rintro e w' ⟨a', c', rfl, q1, q0, q2⟩
    have hB : Below W2.heap.size W2 w' := hW.trans (q2.mono hW.size)
    exact ⟨a', c', rfl, (hB.cell (p := ⟨g, 4, none⟩) hl).trans k4, q1, q0.mono hW.size, hB⟩
  have HC2 : Hid (∀ W, Below W2.heap.size W2 W → Calls Tryz.prog 48 #[.slice aa an ac] W fun e w' => ∃ b' d', e = .returned (.slice b' an d') ∧ (w'.cell? ⟨g, 3, none⟩ = some (.slice ka kn kc) ∧ w'.cell? ⟨g, 4, none⟩ = some (.slice aa an ac) ∧ w'.frozen? ⟨g, 3, none⟩ = false ∧ w'.frozen? ⟨g, 4, none⟩ = false) ∧ Hid (RowAt w' 2 b' an d' us) ∧ Hid (NewAt W2.heap.size b') ∧ Hid (Below W.heap.size W w')) := by
    intro W hW
    have hW0 : Below w.heap.size w W := hA.trans (hW.mono hA.size)
    refine (cloneA (HA.out.keep hW0) (by omega)).mono ?_
    rintro e w' ⟨a', c', rfl, q1, q0, q2⟩
    have hB : Below W2.heap.size W2 w' := hW.trans (q2.mono hW.size)
    obtain ⟨⟨_, _, _, c3, c4⟩, _, _, _, z3, z4, _⟩ := NodeAt.cells (s := ⟨id0, tag0, par0, ka, kn, kc, aa, an, ac⟩) ((hB.block _ hl).trans hN)
    exact ⟨a', c', rfl, ⟨c3, c4, z3, z4⟩, q1, q0.mono hW.size, q2⟩
  have gd : Below W2.heap.size W2 W2.drew := (Below.refl _ W2).drew
  have kd3 : W2.drew.cell? ⟨g, 3, none⟩ = some (.slice ka kn kc) := k3
  have kd4 : W2.drew.cell? ⟨g, 4, none⟩ = some (.slice aa an ac) := k4
  have HN := hid_mk hN
  have HAA := hid_mk hA
  have HR2 := hid_mk hR2
  have HGW : Hid (w.heap.size < g ∧ g < W2.heap.size) := ⟨by omega, hl⟩
  clear hN hA hR2 HR HB1 hRl k0 k1 k2 f0 f1 f2 HK HA hg
  go_region_with (first
    | (go_at_call 47; with_reducible refine (HC1.out _ gd).mono ?_; rintro e w3 ⟨a', c', rfl, q4, HQ1, HQ0, gd3⟩)
    | (go_at_call 48; with_reducible refine (HC2.out _ gd3).mono ?_; rintro e w4 ⟨b', d', rfl, ⟨r3, r4, z3, z4⟩, HT1, HT0, HT2⟩))
  all_goals
    have hN4 : NodeAt w4 g ⟨id0, tag0, par0, ka, kn, kc, aa, an, ac⟩ := (HT2.out.block _ (Nat.lt_of_lt_of_le HGW.out.2 gd3.size)).trans ((gd3.block _ HGW.out.2).trans HN.out)
    have hR4 := (HT2.out.block w.heap.size (Nat.lt_of_lt_of_le (Nat.lt_trans HGW.out.1 HGW.out.2) gd3.size)).trans ((gd3.block _ (Nat.lt_trans HGW.out.1 HGW.out.2)).trans HR2.out)
    have hN5 := heap_setCell_same _ g 4 _ 47 (.slice b' an d') (heap_setCell_same w4 g 3 _ 47 (.slice a' kn c') hN4)
    have hR5 := (Below.heap_setCell (w4.setCell ⟨g, 3, none⟩ (.slice a' kn c')) ⟨g, 4, none⟩ (.slice b' an d') w.heap.size (Nat.ne_of_lt HGW.out.1)).trans ((Below.heap_setCell w4 ⟨g, 3, none⟩ (.slice a' kn c') w.heap.size (Nat.ne_of_lt HGW.out.1)).trans hR4)
    have hB4 : Below w.heap.size w w4 := (HAA.out.trans (gd3.mono HAA.out.size)).trans (HT2.out.mono (Nat.le_trans HAA.out.size gd3.size))
    have hB5 := (hB4.setCell (p := ⟨g, 3, none⟩) (Nat.le_of_lt HGW.out.1) (.slice a' kn c')).setCell (p := ⟨g, 4, none⟩) (Nat.le_of_lt HGW.out.1) (.slice b' an d')
    have hq1 := ((HQ1.out.keep HT2.out).set (o := 3) HQ0.out HGW.out.2 (.slice a' kn c')).set (o := 4) HQ0.out HGW.out.2 (.slice b' an d')
    have ht1 := (HT1.out.set (o := 3) HT0.out HGW.out.2 (.slice a' kn c')).set (o := 4) HT0.out HGW.out.2 (.slice b' an d')
    generalize (w4.setCell ⟨g, 3, none⟩ (.slice a' kn c')).setCell ⟨g, 4, none⟩ (.slice b' an d') = W5 at *
    have hN6 : NodeAt W5 g ⟨id0, tag0, par0, a', kn, c', b', an, d'⟩ := hN5
    obtain ⟨⟨m0, m1, m2, m3, m4⟩, _⟩ := hN6.cells
    dsimp only at m0 m1 m2 m3 m4
    obtain ⟨⟨y0, y1, y2, y3, y4⟩, x0, x1, x2, x3, x4⟩ := zero_cells5 hR5
    have hRl : w.heap.size < W5.heap.size := (Array.getElem?_eq_some_iff.1 hR5).1
    have HB5 := hid_mk hB5
    have HS1 := hid_mk hq1
    have HS2 := hid_mk ht1
    have hne : ¬ w.heap.size = g := Nat.ne_of_lt HGW.out.1
    have HGW2 : Hid (w.heap.size < W2.heap.size) := Nat.lt_trans HGW.out.1 HGW.out.2
    clear hN4 hR4 hN5 hR5 hB4 hB5 hq1 ht1 hN6 gd3 q4 r3 r4 z3 z4 k3 k4 f3 f4 kd3 kd4 gd HC1 HC2 HN HAA HR2 HT1 HT2 HQ1
    go_wp2
    refine bodyPost_ret (v := .tuple #[N5.val ⟨id0, tag0, par0, a', kn, c', b', an, d'⟩, .bool true]) (by simp [results, Tryz.results26, go_sem, N5.val, y0, y1, y2, y3, y4]) rfl ⟨a', c', b', d', rfl, ?_, ?_, HQ0.out.mono (Nat.le_of_lt HGW2.out), below_five HB5.out _ _ _ _ _⟩
    · exact HS1.out.set5 HQ0.out HGW2.out _ _ _ _ _
    · exact HS2.out.set5 HT0.out HGW2.out _ _ _ _ _
theorem tree_node_new {w : World} {dp : Value} {m : M} {nx : Int} (h : Tree w dp m nx) {n : Int} {e : El} (e1 : m n = some e) : Calls Tryz.prog 26 #[dp, .int .i64 n] w fun x w' => ∃ s : N5, x = .returned (.tuple #[.agg #[.int .i64 s.id, .string s.tag, .int .i64 s.par, .slice s.ka s.kn s.kc, .slice s.aa s.an s.ac], .bool true]) ∧ ElAt w' s e ∧ NewAt w.heap.size s.ka ∧ Below w.heap.size w w' := by
  obtain ⟨hD, d, I⟩ := h
  obtain ⟨t, h1, h2, _⟩ := hD.doc
  rcases h2 n with ⟨e0, _⟩ | ⟨e', s, e1', e2, hE⟩
  · rw [e1] at e0
    cases e0
  · rw [e1] at e1'
    cases e1'
    have hk := hE.kn
    have ha := hE.an
    have := I.ksLen e1
    have := I.nxb
    have := (I.us e1).1
    refine (node_0n n s (fun _ hW => find_some (h1.keep hW) n s e2) hE.2.2.2.1 hE.2.2.2.2 (by omega) (by omega)).mono ?_
    rintro x w' ⟨a', c', b', d', rfl, q1, q2, q3, hB⟩
    exact ⟨⟨s.id, s.tag, s.par, a', s.kn, c', b', s.an, d'⟩, rfl, ⟨hE.1, hE.2.1, hE.2.2.1, q1, q2⟩, q3, hB⟩

end Go.Proofs.YtoncgmnccgegmaaGreat.N
namespace Go.Proofs.YtoncgmnccgegmaaGreat.N
open Go.RowKit Go.Shelf
set_option maxRecDepth 100000
attribute [local go_sem] Oper.semAt_some

def KpB (n0 bl : Nat) (A B : World) : Prop := (∀ j, ownedBy bl A j → j < A.heap.size) → KpS n0 bl A B
theorem KpB.trans {n0 bl : Nat} {A B C : World} (h : KpB n0 bl A B) (k : KpB n0 bl B C) : KpB n0 bl A C := fun ho => by
  have h1 := h ho
  exact h1.trans (k fun j hj => (h1.own ho j hj).2) ho
/-- The iterator's own state: the tree that it tells, and what lies there. -/
structure Uw (w0 : World) (bl bw : Nat) (tp : Value) (nx : Int) (A : World) : Prop where
  u : Ust w0.heap.size bl A
  b : Below w0.heap.size w0 A
  hw : A.heap[bw]? = some (.cells #[tp, .int .i64 nx] 74 (0, 0))
  fw : Fr bl A bw
theorem Uw.kp {w0 : World} {bl bw : Nat} {tp : Value} {nx : Int} {A B : World} (h : Uw w0 bl bw tp nx A) (k : KpB w0.heap.size bl A B) : Uw w0 bl bw tp nx B := by
  have k := k fun j hj => (h.u.own j hj).2
  exact ⟨h.u.kp k, h.b.trans k.below, k.same _ _ h.hw rfl h.fw.1 h.fw.2, h.fw.kp h.u k (Array.getElem?_eq_some_iff.1 h.hw).1⟩
theorem Uw.bw {w0 : World} {bl bw : Nat} {tp : Value} {nx : Int} {A B : World} (h : Uw w0 bl bw tp nx A) (k : Below A.heap.size A B) : Uw w0 bl bw tp nx B :=
  ⟨h.u.bw k, h.b.trans (k.mono h.b.size), (k.block _ (Array.getElem?_eq_some_iff.1 h.hw).1).trans h.hw, h.fw.bw h.u k⟩

theorem Uw.tree {w0 : World} {bl bw : Nat} {tp : Value} {nx : Int} {A : World} {m : M} {d : Int → Nat} (h : Uw w0 bl bw tp nx A) (hT : TrM w0 tp m) (I : Inv uOk m nx d) : Tree A (.pointer (some ⟨bw, 0, none⟩)) m nx :=
  ⟨⟨bw, tp, rfl, h.hw, hT.keep h.b⟩, d, I⟩
theorem Uw.it {w0 : World} {bl bw : Nat} {tp : Value} {nx : Int} {A B : World} (h : Uw w0 bl bw tp nx A) (k : Below A.heap.size A B) : ItS w0.heap.size bl A B := ItS.bw h.b.size k
/-- Between two lists. -/
def OutGo (w0 : World) (bl bw : Nat) (tp : Value) (nx : Int) (m : M) (id : Int) (J : List Int → World → Prop) (g : Nat) (v : Value) (A : World) : Prop :=
  ∃ st pre, 2 * ((preO m id).length - pre.length) + st.length ≤ g ∧ LfAt w0.heap.size bl A v st ∧ Uw w0 bl bw tp nx A ∧ J pre A ∧ pre ++ restS m st = preO m id ∧ st.length ≤ pre.length + 1
/-- Within a list. -/
def InGo (w0 : World) (bl bw : Nat) (tp : Value) (nx : Int) (m : M) (id : Int) (J : List Int → World → Prop) (v lv : Value) (g0 p0 : Nat) (st : List (List Int)) (l : List Int) (g : Nat) (v4 ai : Value) (A : World) : Prop :=
  ∃ (i : Nat) (pre : List Int), i + g = l.length ∧ v4 = v ∧ ai = .int .i64 (i : Int) ∧ LfAt w0.heap.size bl A v st ∧ SlAt bl A lv l ∧ (∀ x n c, lv = .slice (some x) n c → v.ownBlock ≠ some x.block) ∧ Uw w0 bl bw tp nx A ∧ J pre A ∧ pre ++ ((l.drop i).flatMap (preO m) ++ restS m st) = preO m id ∧ st.length ≤ p0 ∧ p0 ≤ pre.length ∧ g0 = g0
theorem row_twoV {W : World} {g : Nat} {v1 v2 : Value} {t : TypeId} (h : W.heap[g]? = some (.cells #[v1, v2] t (0, 0))) (h1 : v1.oneCell' = true) (h2 : v2.oneCell' = true) : RowAt W 1 (some ⟨g, 0, none⟩) 2 2 [v1, v2] := by
  refine ⟨rfl, Nat.le_refl _, by decide, fun u hu => ?_, .inr ⟨g, 0, rfl, (Array.getElem?_eq_some_iff.1 h).1, fun j u hu => ?_⟩⟩
  · rcases List.mem_cons.1 hu with rfl | hu
    · exact h1
    · rw [List.mem_singleton] at hu
      rw [hu]
      exact h2
  · have hj : j < 2 := (List.getElem?_eq_some_iff.1 hu).1
    rcases (show j = 0 ∨ j = 1 by omega) with rfl | rfl
    · simpa [World.cell?, h] using hu
    · simpa [World.cell?, h] using hu
theorem info30r : ∃ i z, Tryz.prog.info? 29 = some i ∧ i.zero = some z ∧ i.size = 1 ∧ i.bytes = 24 ∧ z.cells.size = 1 := ⟨_, _, by rfl, by rfl, by rfl, by rfl, rfl⟩
/-- Two lists more are left. -/
theorem push_two {w0 : World} {bl bw : Nat} {tp : Value} {nx : Int} {m : M} {id : Int} {J : List Int → World → Prop} (hJ : ∀ xs A B, J xs A → ItS w0.heap.size bl A B → J xs B) {A B W3 : World} {v v' v1 v2 : Value} {st : List (List Int)} {l1 l2 pr : List Int} (hB3 : Below W3.heap.size W3 A) (hU : Uw w0 bl bw tp nx W3) {vs : List Value} (h1 : W3.ownsRow w0.heap.size 29 1 v st.length vs) (h2 : vs.length = st.length) (h3 : ∀ g, v.ownBlock = some g → Fr bl W3 g) (h4 : ∀ i (h : i < st.length) (h' : i < vs.length), SlAt bl W3 vs[i] st[i] ∧ ∀ x n c g, vs[i] = .slice (some x) n c → v.ownBlock = some g → x.block ≠ g)
    (s1 : SlAt bl W3 v1 l1) (f1 : ∀ x n c g, v1 = .slice (some x) n c → v.ownBlock = some g → x.block ≠ g) (s2 : SlAt bl W3 v2 l2) (f2 : ∀ x n c g, v2 = .slice (some x) n c → v.ownBlock = some g → x.block ≠ g) (hJ3 : J pr W3)
    (hown : B.ownsRow w0.heap.size 29 1 v' (st.length + 2) (vs ++ [v1, v2])) (hgr : A.grownBy B v.ownBlock) (hat : v'.ownBlock = v.ownBlock ∨ v'.ownBlock = some A.heap.size) (hto : pr ++ (l2.flatMap (preO m) ++ l1.flatMap (preO m) ++ restS m st) = preO m id) (hsl : st.length + 2 ≤ pr.length + 1) : OutGo w0 bl bw tp nx m id J (2 * ((preO m id).length - pr.length) + (st.length + 2)) v' B := by
  have hUA := hU.bw hB3
  obtain ⟨q1, q2, q3, q4, q5⟩ := LfAt.push (A := A) hUA.u (Nat.le_refl _) (ownsRow_below h1 hB3) h2 (fun g hg => (h3 g hg).bw hU.u hB3) (fun i h h' => ⟨(h4 i h h').1.bw hU.u hB3, (h4 i h h').2⟩) (s1.bw hU.u hB3) f1 (s2.bw hU.u hB3) f2 hown hgr hat
  have hbw : v.ownBlock ≠ some bw := fun e => by
    rcases h1.2 with ⟨e1, _⟩ | ⟨g, cap, cur, e1, _, k2, _⟩
    · rw [e1] at e
      cases e
    · rw [e1] at e
      have e : g = bw := Option.some.inj e
      rw [e, hU.hw] at k2
      injection k2 with k2
      injection k2 with _ k2
      cases k2
  refine ⟨st ++ [l1, l2], pr, by simp, q1, ⟨q2, hUA.b.trans q3.below, (q5 bw (Array.getElem?_eq_some_iff.1 hUA.hw).1 hbw).trans hUA.hw, q4 bw hUA.fw⟩, hJ _ _ _ (hJ _ _ _ hJ3 (hU.it hB3)) q3, ?_, by simpa using hsl⟩
  rw [restS_two]
  exact hto
theorem drop_flat {m : M} {l : List Int} {i : Nat} (h : i < l.length) : (l.drop i).flatMap (preO m) = preO m l[i] ++ (l.drop (i + 1)).flatMap (preO m) := by rw [List.drop_eq_getElem_cons h, List.flatMap_cons]

set_option maxHeartbeats 1000000 in
theorem under_told {w0 : World} {tp : Value} {m : M} {nx : Int} (hT : TrM w0 tp m) {d : Int → Nat} (I : Inv uOk m nx d) {bl bi bw : Nat} {id : Int} {W : World} (hU : Uw w0 bl bw tp nx W) (hi : W.heap[bi]? = some (.cells #[.int .i64 id] 3 (0, 0))) (hlen : (preO m id).length ≤ 100000) :
    Told Tryz.prog 71 #[.pointer (some ⟨bi, 0, none⟩), .pointer (some ⟨bw, 0, none⟩)] (ItS w0.heap.size bl) (KpB w0.heap.size bl) (fun xs => xs = preO m id) (fun pre => pre <+: preO m id) (preO m id).length W := by
  intro q l J Jx hJ hJx hY h0
  have c0 : W.cell? ⟨bi, 0, none⟩ = some (.int .i64 id) := by simp [World.cell?, hi]
  obtain ⟨W2, hW2⟩ : ∃ W2, W2 = (W.alloc (.cells #[.int .i64 id] 3)).alloc (.cells #[.slice (some ⟨W.heap.size, 0, none⟩) 1 1] 29) := ⟨_, rfl⟩
  have hs1 : (W.alloc (.cells #[.int .i64 id] 3)).heap.size = W.heap.size + 1 := by simp
  have hB02 : Below W.heap.size W W2 := by rw [hW2]; exact ((Below.refl _ _).alloc (Nat.le_refl _) _).alloc (by rw [hs1]; omega) _
  have hb1 : W2.heap[W.heap.size]? = some (.cells #[.int .i64 id] 3 (0, 0)) := by
    rw [hW2, Below.heap_alloc _ _ _ (by rw [hs1]; omega)]
    exact heap_alloc_last W _
  have hb2 : W2.heap[W.heap.size + 1]? = some (.cells #[.slice (some ⟨W.heap.size, 0, none⟩) 1 1] 29 (0, 0)) := by
    rw [hW2, ← hs1]
    exact heap_alloc_last _ _
  have hU2 := hU.bw hB02
  have hn0 : w0.heap.size ≤ W.heap.size := hU.b.size
  have hfr : ∀ k, W.heap.size ≤ k → Fr bl W2 k := fun k hk => (Fr.new hU.u hk).bw hU.u hB02
  have HST : Hid (OutGo w0 bl bw tp nx m id J (2 * (preO m id).length + 1) (.slice (some ⟨W.heap.size + 1, 0, none⟩) 1 1) W2) := by
    refine ⟨[[id]], [], by simp, ⟨[.slice (some ⟨W.heap.size, 0, none⟩) 1 1], ⟨rfl, .inr ⟨W.heap.size + 1, 1, _, rfl, by omega, hb2, Nat.le_refl _, by decide, rfl, rfl⟩⟩, rfl, fun g hg => ?_, fun i h h' => ?_⟩, hU2, hJ _ _ _ h0 (hU.it hB02), by simp [restS], by simp⟩
    · have hg : W.heap.size + 1 = g := Option.some.inj hg
      exact hfr g (by omega)
    · have : i = 0 := by simpa using h
      subst this
      refine ⟨⟨some ⟨W.heap.size, 0, none⟩, 1, rfl, row_one hb1 rfl, fun x hx => ?_⟩, fun x n c g e hg => ?_⟩
      · cases hx
        exact hfr _ (Nat.le_refl _)
      · injection e with e
        injection e with e
        rw [← e]
        have hg : W.heap.size + 1 = g := Option.some.inj hg
        show W.heap.size ≠ g
        omega
  have HW2 := hid_mk hW2
  have HJ := hid_mk hJ
  have HJx := hid_mk hJx
  have HY := hid_mk hY
  have HT := hid_mk hT
  have HI := hid_mk I
  clear hs1 hB02 hb1 hb2 hU2 hfr hJ hJx hY h0 hT I hU hi hW2
  obtain ⟨N, hN⟩ : ∃ N, N = (preO m id).length := ⟨_, rfl⟩
  refine callsIn_wide.2 ?_
  show Calls Tryz.prog 71 #[.func (.yield l) #[] #[], .pointer (some ⟨bi, 0, none⟩), .pointer (some ⟨bw, 0, none⟩)] W _
  go_enter Tryz.func71, Tryz.ntmps71
  go_step3
  go_wp2
  go_step3
  go_wp2
  rw [← HW2.out]
  clear c0
  go_loopg [4] (2 * (preO m id).length + 1) (fun g a4 wr => OutGo w0 bl bw tp nx m id J g a4 wr)
  case atStart => exact HST.out
  case round =>
    clear HST
    obtain ⟨st, pre, hg, hL, hUw, hJp, hto, hsl⟩ := hrel
    rcases List.eq_nil_or_concat st with rfl | ⟨st0, ls, rfl⟩
    · obtain ⟨vs, ho, _⟩ := hL
      obtain ⟨av, cv, rfl⟩ := own_slice ho
      have HE : Hid (pre = preO m id) := by rw [restS, List.append_nil] at hto; exact hto
      have HJp := hid_mk hJp
      clear ho hto hsl hUw hJp hg
      go_wp2
      rw [Exit.noGoto_normal]
      go_end0
      exact ⟨⟨_, rfl⟩, .inl ⟨pre, HE.out, HJp.out⟩⟩
    · rw [List.concat_eq_append] at hg hL hto hsl
      obtain ⟨g4, cap, lv, rfl, hc1, hc2, hgl, hcell, hSl, hne, hL0⟩ := hL.pop
      rw [restS_snoc] at hto
      rw [List.length_append, List.length_singleton] at hg hsl
      have hSl2 := hSl
      obtain ⟨a, c, rfl, hr, _⟩ := hSl2
      have hrc := hr.2.1
      have hrm := hr.2.2.1
      unfold maxLen at hrm hc2
      have HIN : Hid (InGo w0 bl bw tp nx m id J (.slice (some ⟨g4, 0, none⟩) st0.length cap) (.slice a ls.length c) 0 pre.length st0 ls ls.length (.slice (some ⟨g4, 0, none⟩) st0.length cap) (.int .i64 0) wr) := by
        refine ⟨0, pre, by omega, rfl, rfl, hL0, hSl, fun x n c' e e2 => hne x n c' e (Option.some.inj e2).symm, hUw, hJp, by rw [List.drop_zero]; exact hto, by omega, Nat.le_refl _, rfl⟩
      have hpN : pre.length ≤ (preO m id).length := by rw [← hto]; simp
      have hI1 : ((st0.length : Int) + 1 - 1) = (st0.length : Int) := by omega
      clear hL hL0 hSl hr hUw hJp hto hne
      go_wp2
      go_loopg [4, 29] ls.length (fun g a4 ai wx => InGo w0 bl bw tp nx m id J (.slice (some ⟨g4, 0, none⟩) st0.length cap) (.slice a ls.length c) 0 pre.length st0 ls g a4 ai wx)
      case atStart => exact HIN.out
      case round =>
        clear HIN hcell hgl
        obtain ⟨i, pr, hig, rfl, rfl, hL1, hS1, hne1, hU1, hJ1, hto1, hp1, hp2, _⟩ := hrel
        have hprN : pr.length ≤ (preO m id).length := by rw [← hto1]; simp
        by_cases hil : i < ls.length
        · have hS2 := hS1
          obtain ⟨a', c', e, hr', hf'⟩ := hS2
          cases e
          obtain ⟨ab, ao, rfl, hal, hq⟩ := hr'.intAt hil
          have HDF := hid_mk (drop_flat (m := m) hil)
          rw [HDF.out] at hto1
          generalize ls[i] = x at *
          have hilI : (i : Int) < (ls.length : Int) := by omega
          cases he : m x with
          | none =>
            have hnd := tree_node (hU1.tree HT.out HI.out) x
            rw [he] at hnd
            have HTO : Hid (pr ++ ((ls.drop (i + 1)).flatMap (preO m) ++ restS m st0) = preO m id) := by rw [Hid, ← hto1, preO_none he]; rfl
            obtain ⟨g2, rfl⟩ : ∃ g2, gk = g2 + 1 := ⟨gk - 1, by omega⟩
            have HAL : Hid (∀ B, Below wr.heap.size wr B → InGo w0 bl bw tp nx m id J (.slice (some ⟨g4, 0, none⟩) st0.length cap) (.slice (some ⟨ab, ao, none⟩) ls.length c) 0 pre.length st0 ls g2 (.slice (some ⟨g4, 0, none⟩) st0.length cap) (.int .i64 ((i + 1 : Nat) : Int)) B) := fun B hB => ⟨i + 1, pr, by omega, rfl, rfl, hL1.bw hU1.u hB, hS1.bw hU1.u hB, hne1, hU1.bw hB, HJ.out _ _ _ hJ1 (hU1.it hB), HTO.out, hp1, hp2, rfl⟩
            clear hto1 hL1 hS1 hne1 hU1 hJ1 he HDF hr' hf'
            go_wp2_with (go_at_call 26; fail)
            refine hnd.mono ?_
            rintro e w1 ⟨s, rfl, hE, hB1⟩
            have hkn : s.kn = 0 := hE.kn
            obtain ⟨w2, hw2⟩ : ∃ w2, w2 = w1.alloc (.cells #[.int .i64 s.id, .string s.tag, .int .i64 s.par, .slice s.ka s.kn s.kc, .slice s.aa s.an s.ac] 47) := ⟨_, rfl⟩
            have hB2 : Below wr.heap.size wr w2 := by rw [hw2]; exact hB1.alloc hB1.size _
            have hN2 : NodeAt w2 w1.heap.size s := by rw [hw2]; exact heap_alloc_last w1 _
            obtain ⟨⟨_, _, _, n3, _⟩, _⟩ := hN2.cells
            rw [hkn] at n3
            have HR := hid_mk (HAL.out w2 hB2)
            have HW2 := hid_mk hw2
            clear hnd hE hB1 hB2 hN2 hw2 HAL hkn
            go_upto_region 9 with (fail)
            rw [← HW2.out]
            go_wp2
            go_roundg g2
            case measure => omega
            case rel => exact HR.out
          | some el =>
            have hnd := tree_node_new (hU1.tree HT.out HI.out) he
            have hpx := preO_some HI.out he
            have hks : el.ks.length ≤ 100000 := by
              have := HI.out.ksLen he
              have := HI.out.nxb
              omega
            rw [hpx] at hto1
            obtain ⟨g2, rfl⟩ : ∃ g2, gk = g2 + 1 := ⟨gk - 1, by omega⟩
            have hlt : pr.length < (preO m id).length := by rw [← hto1]; simp
            have HTO : Hid ((pr ++ [x]) ++ (el.ks.flatMap (preO m) ++ (ls.drop (i + 1)).flatMap (preO m) ++ restS m st0) = preO m id) := by rw [Hid, ← hto1]; simp
            have HL1 := hid_mk hL1
            have HS1 := hid_mk hS1
            have HNE := hid_mk hne1
            have HU1 := hid_mk hU1
            have HJ1 := hid_mk hJ1
            clear hto1 hL1 hS1 hne1 hU1 hJ1 he HDF hr' hf' hpx
            go_wp2_with (go_at_call 26; fail)
            refine hnd.mono ?_
            rintro e w1 ⟨s, rfl, hE, hnew, hB1⟩
            have hkn : s.kn = el.ks.length := hE.kn
            obtain ⟨id0, tag0, par0, ka, kn, kc, aa, an, ac⟩ := s
            dsimp only at *
            subst hkn
            obtain ⟨w2, hw2⟩ : ∃ w2, w2 = w1.alloc (.cells #[.int .i64 id0, .string tag0, .int .i64 par0, .slice ka el.ks.length kc, .slice aa an ac] 47) := ⟨_, rfl⟩
            have hB12 : Below w1.heap.size w1 w2 := by rw [hw2]; exact (Below.refl _ _).alloc (Nat.le_refl _) _
            have hB2 : Below wr.heap.size wr w2 := hB1.trans (hB12.mono hB1.size)
            have hN2 : NodeAt w2 w1.heap.size ⟨id0, tag0, par0, ka, el.ks.length, kc, aa, an, ac⟩ := by rw [hw2]; exact heap_alloc_last w1 _
            have HU2 := hid_mk (HU1.out.bw hB2)
            have HL2 := hid_mk (HL1.out.bw HU1.out.u hB2)
            have HS2 := hid_mk (HS1.out.bw HU1.out.u hB2)
            have hJ2 := HJ.out _ _ _ HJ1.out (HU1.out.it hB2)
            have HK2 : Hid (SlAt bl w2 (.slice ka el.ks.length kc) el.ks) := ⟨ka, kc, rfl, (hE.keep hB12).2.2.2.1, fun y hy => (Fr.new HU1.out.u (hnew y hy)).bw HU1.out.u hB2⟩
            have HKG : Hid (∀ y n c' gg, Value.slice ka el.ks.length kc = .slice (some y) n c' → (Value.slice (some ⟨g4, 0, none⟩) st0.length cap).ownBlock = some gg → y.block ≠ gg) := fun y n c' gg e hgg => by
              injection e with e _ _
              have h1 := hnew y e
              obtain ⟨vs, ho, _⟩ := HL1.out
              have h2 := (ho.lt gg hgg).2
              omega
            have HFB : Hid (Fr bl w2 w1.heap.size) := (Fr.new HU1.out.u hB1.size).bw HU1.out.u hB2
            have HN2 := hid_mk hN2
            have HW2 := hid_mk hw2
            obtain ⟨fn, tmps, assign, body, hy, hR⟩ := HY.out 3 pr x w2 hJ2 hlt
            clear hnd hE hB1 hB2 hB12 hN2 hw2 hnew HL1 HS1 HU1 HJ1 hJ2
            go_upto_region 9 with (fail)
            rw [← HW2.out]
            refine (wpIn_wide (n := 4)).1 ?_
            gi_wp2
            refine hR.mono ?_
            rintro e W3 (⟨rfl, hJ3, hk3⟩ | ⟨rfl, hx3⟩)
            · have hkk := hk3 fun j hj => (HU2.out.u.own j hj).2
              have HU3 := hid_mk (HU2.out.kp hk3)
              have HL3 := hid_mk (HL2.out.kp HU2.out.u hkk)
              have HS3 := hid_mk (HS2.out.kp HU2.out.u hkk)
              have HK3 := hid_mk (HK2.out.kp HU2.out.u hkk)
              have hN3 : NodeAt W3 w1.heap.size ⟨id0, tag0, par0, ka, el.ks.length, kc, aa, an, ac⟩ := hkk.same _ _ HN2.out rfl HFB.out.1 HFB.out.2
              obtain ⟨⟨_, _, _, n3, _⟩, _, _, _, _, _, hbx⟩ := hN3.cells
              dsimp only at n3
              have HJ3 := hid_mk hJ3
              clear hJ3 hk3 hkk hN3 HN2 HFB HU2 HL2 HS2 HK2 hR hy
              by_cases h0 : el.ks.length = 0
              · have hk0 : el.ks = [] := List.length_eq_zero_iff.1 h0
                have HR : Hid (InGo w0 bl bw tp nx m id J (.slice (some ⟨g4, 0, none⟩) st0.length cap) (.slice (some ⟨ab, ao, none⟩) ls.length c) 0 pre.length st0 ls g2 (.slice (some ⟨g4, 0, none⟩) st0.length cap) (.int .i64 ((i + 1 : Nat) : Int)) W3) := ⟨i + 1, pr ++ [x], by omega, rfl, rfl, HL3.out, HS3.out, HNE.out, HU3.out, HJ3.out, by have := HTO.out; rw [hk0] at this; simpa using this, hp1, by rw [List.length_append]; omega, rfl⟩
                rw [h0] at n3
                clear hk0 h0 HTO HL3 HS3 HU3 HK3 HKG HJ3
                gi_wp2
                go_wp2
                go_roundg g2
                case measure => omega
                case rel => exact HR.out
              · have hpos : (0 : Int) < (el.ks.length : Int) := by omega
                obtain ⟨vs, h1, h2, h3, h4⟩ := HL3.out
                obtain ⟨a9, c9, e9, hr9, hf9⟩ := HS3.out
                cases e9
                have hfab : Fr bl W3 ab := hf9 _ rfl
                have hdr0 := hr9.drop (i + 1) hil
                rw [Nat.mul_one, ← intsV_drop] at hdr0
                have hi1 : (0 : Int) ≤ (i : Int) + 1 := by omega
                have hi2 : (i : Int) + 1 ≤ (ls.length : Int) := by omega
                have hlt9 : pr.length + 1 ≤ (preO m id).length := hlt
                have hw1 : IntKind.i64.wrap ((i : Int) + 1) = (i : Int) + 1 := by rw [IntKind.wrap_i64]; omega
                have hi3 : (i : Int) + 1 ≤ (c : Int) := by omega
                have hi4 : i + 1 ≤ c := by omega
                have hi5 : i + 1 ≤ ls.length := by omega
                have hi6 : ((i : Int) + 1).toNat = i + 1 := by omega
                clear hf9
                gi_wp2
                go_upto_region 11 with (fail)
                have hdr : RowAt W3 1 (if c = i + 1 then some ⟨ab, ao, none⟩ else some ⟨ab, ao + (i + 1), none⟩) (ls.length - (i + 1)) (c - (i + 1)) (intsV (ls.drop (i + 1))) := by
                  split
                  · refine ⟨hdr0.1, hdr0.2.1, hdr0.2.2.1, hdr0.2.2.2.1, .inr ⟨ab, ao, rfl, ?_, fun j u hu => ?_⟩⟩
                    · rcases hr9.2.2.2.2 with ⟨e, _⟩ | ⟨b, o, e, hl, _⟩
                      · cases e
                      · cases e
                        exact hl
                    · have h7 := (List.getElem?_eq_some_iff.1 hu).1
                      have h8 := hdr0.1
                      omega
                  · exact hdr0
                clear hdr0 hr9
                obtain ⟨v1, hv1⟩ : ∃ v1, v1 = Value.slice (if c = i + 1 then some ⟨ab, ao, none⟩ else some ⟨ab, ao + (i + 1), none⟩) (ls.length - (i + 1)) (c - (i + 1)) := ⟨_, rfl⟩
                obtain ⟨X, hX⟩ : ∃ X, X = Obj.cells #[v1, .slice ka el.ks.length kc] 29 := ⟨_, rfl⟩
                have hBX : Below W3.heap.size W3 ((W3.alloc X).drew) := ((Below.refl _ _).alloc (Nat.le_refl _) _).drew
                have hs1 : SlAt bl W3 v1 (ls.drop (i + 1)) := ⟨_, _, by rw [hv1, List.length_drop], by rw [List.length_drop]; exact hdr, fun y hy => by split at hy <;> cases hy <;> exact hfab⟩
                have hf1 : ∀ y n c' gg, v1 = .slice (some y) n c' → (Value.slice (some ⟨g4, 0, none⟩) st0.length cap).ownBlock = some gg → y.block ≠ gg := fun y n c' gg e hgg e2 => by
                  rw [hv1] at e
                  injection e with e _ _
                  have hyb : y.block = ab := by split at e <;> cases e <;> rfl
                  refine HNE.out ⟨ab, ao, none⟩ ls.length c rfl ?_
                  rw [hgg, ← e2, hyb]
                have hsrc : RowAt ((W3.alloc X).drew) 1 (some ⟨W3.heap.size, 0, none⟩) 2 2 [v1, .slice ka el.ks.length kc] := by
                  rw [hX]
                  exact row_twoV (t := 29) (heap_alloc_last W3 _) (by rw [hv1]; rfl) rfl
                have hown := ownsRow_below h1 hBX
                have hBs : w0.heap.size ≤ ((W3.alloc X).drew).heap.size := Nat.le_trans HU3.out.b.size hBX.size
                have n3d : ((W3.alloc X).drew).cell? ⟨w1.heap.size, 3, none⟩ = some (.slice ka el.ks.length kc) := (hBX.cell (p := ⟨w1.heap.size, 3, none⟩) hbx).trans n3
                have HEND : Hid (∀ w5 a5 e5, ((W3.alloc X).drew).grownBy w5 (Value.slice (some ⟨g4, 0, none⟩) st0.length cap).ownBlock → w5.ownsRow w0.heap.size 29 1 (.slice a5 (st0.length + 2) e5) (st0.length + 2) (vs ++ [v1, .slice ka el.ks.length kc]) → ((Value.slice a5 (st0.length + 2) e5).ownBlock = (Value.slice (some ⟨g4, 0, none⟩) st0.length cap).ownBlock ∨ (Value.slice a5 (st0.length + 2) e5).ownBlock = some ((W3.alloc X).drew).heap.size) → OutGo w0 bl bw tp nx m id J (2 * ((preO m id).length - (pr ++ [x]).length) + (st0.length + 2)) (.slice a5 (st0.length + 2) e5) w5) := fun w5 a5 e5 hgr ho ha => push_two HJ.out hBX HU3.out h1 h2 h3 h4 hs1 hf1 HK3.out HKG.out HJ3.out ho hgr ha HTO.out (by rw [List.length_append, List.length_singleton]; omega)
                obtain ⟨i5, z5, hi0, hz0, hz1, hz2, hz3⟩ := info30r
                rw [hX, hv1] at hown hsrc hBs HEND n3d
                have hstl : st0.length + 2 ≤ 200000 := by omega
                clear hBX hs1 hf1 h1 h2 h3 h4 hX HTO HL3 HS3 HU3 HK3 HKG HJ3 hdr hfab
                go_region_law (refine step_append_rowAt (by rfl) _ _ 110 (by rfl) (B := w0.heap.size) Tryz.underlying110 hi0 hz0 hz1 hz2 hz3 (by decide) (by decide) (by rfl) (by rfl) hown hsrc (by omega) hBs ?_; intro v5 w5 hown5 hgr5 hat5; have HG5 := hid_mk hgr5; have HA5 := hid_mk hat5; obtain ⟨a5, e5, rfl⟩ := own_slice hown5; have HO5 := hid_mk hown5; clear hgr5 hown5 hat5)
                all_goals
                  have HR := hid_mk (HEND.out _ _ _ HG5.out HO5.out HA5.out)
                  clear HG5 HO5 HA5 HEND hown hsrc n3d n3
                  go_wp2
                  all_goals
                    go_roundg (2 * ((preO m id).length - (pr ++ [x]).length) + (st0.length + 2))
                    case measure => rw [List.length_append, List.length_singleton]; omega
                    case rel => exact HR.out
            · have HPX : Hid (pr ++ [x] <+: preO m id) := ⟨_, HTO.out⟩
              have HX3 := hid_mk hx3
              clear hx3 HN2 HFB HU2 HL2 HS2 HK2 hR hy
              gi_wp2
              go_wp2
              rw [Exit.noGoto_normal]
              go_end0
              exact ⟨⟨_, rfl⟩, .inr ⟨pr ++ [x], HPX.out, HX3.out⟩⟩
        · have hie : i = ls.length := by omega
          have HTO : Hid (pr ++ restS m st0 = preO m id) := by
            rw [hie, List.drop_length] at hto1
            rw [Hid, ← hto1]
            simp
          have HR : Hid (OutGo w0 bl bw tp nx m id J (2 * ((preO m id).length - pr.length) + st0.length) (.slice (some ⟨g4, 0, none⟩) st0.length cap) wr) := ⟨st0, pr, Nat.le_refl _, hL1, hU1, hJ1, HTO.out, by omega⟩
          clear hto1 hL1 hS1 hne1 hU1 hJ1
          go_wp2
          go_roundg (2 * ((preO m id).length - pr.length) + st0.length)
          case measure => omega
          case rel => exact HR.out

end Go.Proofs.YtoncgmnccgegmaaGreat.N
