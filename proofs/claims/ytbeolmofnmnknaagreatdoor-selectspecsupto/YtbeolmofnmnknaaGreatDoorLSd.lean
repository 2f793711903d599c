/- How specific: what SelectSpecs asks, plainly. selector.spread: all the Lists that are weighed, in a row, and where each one's own begin. The reader of selectors: what is still to be read. selector.spread: the walk. -/
import Derived.Test.YtbeolmofnmnknaaGreatDoorLSz
namespace Go.Proofs.YtbeolmofnmnknaaGreatDoor.L
open Go.RowKit
set_option maxRecDepth 100000

theorem less_iff (x y : S3) : lessS x y = true ↔ x.a < y.a ∨ x.a = y.a ∧ (x.b < y.b ∨ x.b = y.b ∧ x.c < y.c) := by
  unfold lessS
  by_cases h1 : x.a = y.a
  · by_cases h2 : x.b = y.b
    · simp [h1, h2]
    · simp [h1, h2]
  · simp [h1]
theorem le_iff (x y : S3) : lessS y x = false ↔ x.a < y.a ∨ x.a = y.a ∧ (x.b < y.b ∨ x.b = y.b ∧ x.c ≤ y.c) := by
  rw [← Bool.not_eq_true, less_iff]
  omega
theorem le_self (x : S3) : lessS x x = false := by rw [le_iff]; omega
theorem le_trans' {x y z : S3} (h1 : lessS y x = false) (h2 : lessS z y = false) : lessS z x = false := by
  rw [le_iff] at *
  omega
theorem upS_l (m x : S3) : lessS (upS m x) m = false := by
  unfold upS
  split
  · rename_i h
    rw [less_iff] at h
    rw [le_iff]
    omega
  · exact le_self _
theorem upS_r (m x : S3) : lessS (upS m x) x = false := by
  unfold upS
  split
  · exact le_self _
  · rename_i h
    simpa using h
theorem upS_z {x : S3} (h : x.ok) : upS z3 x = x := by
  unfold upS
  split
  · rfl
  · rename_i h2
    have h2 : lessS z3 x = false := by simpa using h2
    rw [le_iff] at h2
    obtain ⟨a, b, c⟩ := x
    obtain ⟨⟨q1, _⟩, ⟨q2, _⟩, ⟨q3, _⟩⟩ := h
    simp only [z3] at h2 q1 q2 q3 ⊢
    obtain ⟨rfl, rfl, rfl⟩ : a = 0 ∧ b = 0 ∧ c = 0 := by omega
    rfl
theorem add_z {x : S3} (h : x.ok) : addS z3 x = x := by
  obtain ⟨a, b, c⟩ := x
  obtain ⟨⟨q1, p1⟩, ⟨q2, p2⟩, ⟨q3, p3⟩⟩ := h
  simp only [addS, z3, Int.zero_add] at *
  rw [Int.min_eq_left p1, Int.min_eq_left p2, Int.min_eq_left p3]
theorem add_l {x y : S3} (hx : x.ok) (hy : y.ok) : lessS (addS x y) x = false := by
  rw [le_iff]
  obtain ⟨⟨q1, p1⟩, ⟨q2, p2⟩, ⟨q3, p3⟩⟩ := hx
  obtain ⟨⟨s1, t1⟩, ⟨s2, t2⟩, ⟨s3, t3⟩⟩ := hy
  simp only [addS]
  omega
theorem add_r {x y : S3} (hx : x.ok) (hy : y.ok) : lessS (addS x y) y = false := by
  rw [le_iff]
  obtain ⟨⟨q1, p1⟩, ⟨q2, p2⟩, ⟨q3, p3⟩⟩ := hx
  obtain ⟨⟨s1, t1⟩, ⟨s2, t2⟩, ⟨s3, t3⟩⟩ := hy
  simp only [addS]
  omega
theorem of_ok (c : Cx) : (ofF mostZ c).ok := ofF_ok fun _ _ x _ => mostZ_ok x.2
theorem most_one (c : Cx) : mostZ [c] = ofF mostZ c := by
  rw [mostZ_step]
  show upS z3 (ofF mostZ c) = _
  exact upS_z (of_ok c)
theorem fold_ge (f : Cx → S3) : ∀ (l : List Cx) (m : S3), lessS (l.foldl (fun m c => upS m (f c)) m) m = false ∧ ∀ c ∈ l, lessS (l.foldl (fun m c => upS m (f c)) m) (f c) = false
  | [], m => ⟨le_self _, fun c h => absurd h (by simp)⟩
  | a :: r, m => by
    obtain ⟨h1, h2⟩ := fold_ge f r (upS m (f a))
    rw [List.foldl_cons]
    refine ⟨le_trans' (upS_l m (f a)) h1, fun c hc => ?_⟩
    rcases List.mem_cons.1 hc with rfl | hc
    · exact le_trans' (upS_r m (f c)) h1
    · exact h2 c hc
theorem most_max {l : List Cx} {c : Cx} (h : c ∈ l) : lessS (mostZ l) (mostZ [c]) = false := by
  rw [most_one, mostZ_step l]
  exact (fold_ge (ofF mostZ) l z3).2 c h
/-- A List within one of a kind. -/
def kd (k : Int) : S6 := ⟨k, ⟨#[]⟩, 0, ⟨#[]⟩, 0, 0⟩
def inK (k : Int) (l : List Cx) : Cx := .mk [[(kd k, l)]] []
theorem within_one (k : Int) (l : List Cx) : mostZ [inK k l] = addS z3 (smF mostZ (kd k, l)) := by
  rw [most_one]
  rfl
theorem within_as {k : Int} (h : wgB k = true) (l : List Cx) : mostZ [inK k l] = mostZ l := by
  rw [within_one]
  have e : smF mostZ (kd k, l) = mostZ l := by unfold smF; rw [show (kd k, l).1.k = k from rfl, h]; rfl
  rw [e]
  exact add_z (mostZ_ok l)
theorem within_7 (l : List Cx) : mostZ [inK 7 l] = z3 := by
  rw [within_one]
  rfl
/-- With one Part more. -/
def onS (c : Cx) (l : List Cx) : Cx := .mk (c.parts ++ [[(kd 6, l)]]) []
theorem of_on (c : Cx) (l : List Cx) : mostZ [onS c l] = addS (mostZ [c]) (mostZ l) := by
  rw [most_one, most_one]
  unfold ofF
  rw [show (onS c l).parts = c.parts ++ [[(kd 6, l)]] from rfl, List.foldl_append]
  rfl
/-- How many Lists, by the weight. -/
theorem sum_flat {α β : Type} (f : α → List β) (g : β → Nat) : ∀ l : List α, ((l.flatMap f).map g).sum = (l.map fun a => ((f a).map g).sum).sum
  | [] => rfl
  | a :: r => by
    rw [List.flatMap_cons, List.map_append, List.sum_append, sum_flat f g r, List.map_cons, List.sum_cons]
theorem sum_le {α : Type} {f g : α → Nat} : ∀ {l : List α}, (∀ x ∈ l, f x ≤ g x) → (l.map f).sum ≤ (l.map g).sum
  | [], _ => Nat.le_refl _
  | x :: l, h => by
    simp only [List.map_cons, List.sum_cons]
    have := h x (by simp)
    have := sum_le (l := l) fun y hy => h y (by simp [hy])
    omega
theorem szD_wt : ∀ (d : Nat) (l : List Cx), szD d l ≤ 1 + wt d l
  | 0, l => by simp [szD]
  | d + 1, l => by
    have ih := szD_wt d
    unfold szD wt
    have h1 : ((wgL l).map (szD d)).sum ≤ (l.map (wtC (wt d))).sum := by
      unfold wgL
      rw [sum_flat]
      refine sum_le fun c _ => ?_
      unfold wgC wtC
      rw [sum_flat]
      have h2 : (c.parts.map fun p => ((wgP p).map (szD d)).sum).sum ≤ (c.parts.map (wtP (wt d))).sum := by
        refine sum_le fun p _ => ?_
        unfold wgP wtP
        have h3 : ∀ q : List (S6 × List Cx), (((q.filter fun x => wgB x.1.k).map Prod.snd).map (szD d)).sum ≤ (q.map (wtS (wt d))).sum := by
          intro q
          induction q with
          | nil => exact Nat.le_refl _
          | cons x r ihr =>
            rw [List.filter_cons]
            have := ih x.2
            split
            · simp only [List.map_cons, List.sum_cons, wtS]
              omega
            · simp only [List.map_cons, List.sum_cons]
              omega
        have := h3 p
        omega
      omega
    omega
theorem szZ_wt {l : List Cx} {N : Nat} (h : ∀ d, wt d l ≤ N) : szZ l ≤ 1 + N := by
  have h1 := szD_wt (dpL l + 1) l
  have h2 := h (dpL l + 1)
  unfold szZ
  omega
theorem wt_mem {l : List Cx} {c : Cx} (h : c ∈ l) {N : Nat} (hl : ∀ d, wt d l ≤ N) : ∀ d, wt d [c] ≤ N
  | 0 => Nat.zero_le _
  | d + 1 => by
    have h1 := hl (d + 1)
    have h2 : wtC (wt d) c ≤ (l.map (wtC (wt d))).sum := by
      clear hl h1
      induction l with
      | nil => exact absurd h (by simp)
      | cons a r ih =>
        rw [List.map_cons, List.sum_cons]
        rcases List.mem_cons.1 h with rfl | h
        · omega
        · have := ih h
          omega
    show (List.map (wtC (wt d)) [c]).sum ≤ _
    simp only [List.map_cons, List.map_nil, List.sum_cons, List.sum_nil]
    unfold wt at h1
    omega
theorem sz_in (k : Int) (l : List Cx) : szZ [inK k l] ≤ 1 + szZ l := by
  rw [szZ_step]
  have e : wgL [inK k l] = if wgB k = true then [l] else [] := by
    show wgP [(kd k, l)] ++ [] ++ [] = _
    unfold wgP
    rw [List.filter_cons, List.append_nil, List.append_nil]
    show List.map _ (if wgB k = true then _ else _) = _
    split <;> rfl
  rw [e]
  split <;> simp
theorem sz_on (c : Cx) (l : List Cx) : szZ [onS c l] = szZ [c] + szZ l := by
  have e : wgL [onS c l] = wgL [c] ++ [l] := by
    unfold wgL wgC
    simp only [List.flatMap_cons, List.flatMap_nil, List.append_nil]
    rw [show (onS c l).parts = c.parts ++ [[(kd 6, l)]] from rfl, List.flatMap_append]
    rfl
  rw [szZ_step [onS c l], szZ_step [c], e, List.map_append, List.sum_append]
  simp
  omega
end Go.Proofs.YtbeolmofnmnknaaGreatDoor.L
namespace Go.Proofs.YtbeolmofnmnknaaGreatDoor.L
open Go.RowKit
set_option maxRecDepth 100000

theorem info23 : ∃ i z, Tryz.prog.info? 22 = some i ∧ i.zero = some z ∧ i.size = 1 ∧ i.bytes = 24 ∧ z.cells.size = 1 := ⟨_, _, by rfl, by rfl, by rfl, by rfl, by rfl⟩
theorem SeeAt.keep {W W' : World} {v : Value} {l : List (List (List (Int × Addr)))} (h : SeeAt W v l) (hb : Below W.heap.size W W') : SeeAt W' v l := by
  obtain ⟨b, off, hs, hat⟩ := h
  refine ⟨b, off, hs.keep hb, fun i hi => ?_⟩
  obtain ⟨pv, cv, bp, op, q1, q2, q3, q4, q5⟩ := hat i hi
  refine ⟨pv, cv, bp, op, (hs.cell hb (by omega) _).trans q1, (hs.cell hb (by omega) _).trans q2, q3, q4.keep hb, fun j hj => ?_⟩
  obtain ⟨qv, bq, oq, r1, r2, r3⟩ := q5 j hj
  exact ⟨qv, bq, oq, (q4.cell hb (by omega) _).trans r1, r2.keep hb, fun t ht => ⟨(r3 t ht).1, (r2.cell hb (by omega) _).trans (r3 t ht).2⟩⟩
theorem within_in {W w : World} {v : Value} {l : List Cx} (h : ClAt W v l) (hw : Below W.heap.size W w) (hbig : (wgL l).length ≤ 1000000) :
    Calls Tryz.prog 18 #[v, .func (.func 19) #[] #[]] w fun e w' => ∃ v' A, e = .returned v' ∧ PsAt w.heap.size w' v' A ∧ F2 (LsAt W) A (wgL l) ∧ Below w.heap.size w w' := by
  obtain ⟨l', hs, hf⟩ := h.see
  refine (within_83 (f := wgB) (fun w k => weighed_any w k) (hs.keep hw) (by rw [hf.len]; exact hbig)).mono ?_
  rintro e w' ⟨v', rfl, hp, hb⟩
  exact ⟨v', _, rfl, hp, hf, hb⟩
/-- A row stays where one of another type grows. -/
theorem own_by {w wa w2 : World} {B n s m s' : Nat} {T U : TypeId} {v v' : Value} {xs ys : List Value} (h : w.ownsRow B T s v n xs) (k : w.ownsRow B U s' v' m ys) (hT : T ≠ U) (ha : Below w.heap.size w wa) (hg : wa.grownBy w2 v'.ownBlock) : w2.ownsRow B T s v n xs :=
  own_stayT h fun g c hc _ => by
    have hl := (Array.getElem?_eq_some_iff.1 hc).1
    rw [hg.block g (Nat.lt_of_lt_of_le hl ha.size) (fun e => ?_), ha.block g hl]
    obtain ⟨_, d, hd⟩ := own_at k e.symm
    exact hT (ty_ne hc hd)
theorem own_n {w : World} {B n s m c : Nat} {T : TypeId} {a : Option Addr} {xs : List Value} (h : w.ownsRow B T s (.slice a m c) n xs) : m = n := by
  rcases h.2 with ⟨e, rfl⟩ | ⟨g, cap, cur, e, _⟩
  · cases e; rfl
  · cases e; rfl
theorem own_new (W : World) (e : TypeId) (x : Value) : (W.alloc (.cells #[x] e)).ownsRow W.heap.size e 1 (.slice (some ⟨W.heap.size, 0, none⟩) 1 1) 1 [x] :=
  ⟨by simp, .inr ⟨W.heap.size, 1, #[x], rfl, Nat.le_refl _, heap_alloc_last W _, Nat.le_refl _, by decide, by simp, by simp⟩⟩
/-- A row of Lists of its own; a row of numbers. -/
def AsAt (W w : World) (v : Value) (al : List (List Cx)) : Prop := ∃ us, w.ownsRow W.heap.size 22 1 v al.length us ∧ F2 (fun u L => ClAt W u L) us al
def InAt (W w : World) (v : Value) (ins : List Nat) : Prop := w.ownsRow W.heap.size 3 1 v ins.length (ins.map fun (n : Nat) => Value.int .i64 (n : Int))
/-- The queue of spread, plainly. -/
structure Que (l : List Cx) (al : List (List Cx)) (ins : List Nat) (i : Nat) : Prop where
  len : ins.length = i
  le : i ≤ al.length
  sum : i + ((al.drop i).map szZ).sum = szZ l
  first : al[0]? = some l
  ok : ∀ k (h : k < ins.length) (h' : k < al.length), k < ins[k]'h ∧ ins[k]'h ≤ al.length ∧ ∃ rest, al.drop (ins[k]'h) = wgL (al[k]'h') ++ rest
theorem Que.start (l : List Cx) : Que l [l] [] 0 := ⟨rfl, Nat.zero_le _, by simp, rfl, fun k h => absurd h (by simp)⟩
theorem Que.big {l : List Cx} {al : List (List Cx)} {ins : List Nat} {i : Nat} (h : Que l al ins i) : al.length ≤ szZ l := by
  have h1 := sum_len (al.drop i)
  have h2 := h.sum
  have h3 := h.le
  rw [List.length_drop] at h1
  omega
theorem Que.next {l : List Cx} {al : List (List Cx)} {ins : List Nat} {i : Nat} (h : Que l al ins i) (hi : i < al.length) : Que l (al ++ wgL (al[i]'hi)) (ins ++ [al.length]) (i + 1) := by
  refine ⟨by simp [h.len], by simp; omega, by rw [← queue_step hi]; exact h.sum, ?_, fun k h1 h2 => ?_⟩
  · rw [List.getElem?_append_left (by omega)]
    exact h.first
  · by_cases hk : k < ins.length
    · have hk' : k < al.length := by have := h.len; omega
      obtain ⟨q1, q2, rest, q3⟩ := h.ok k hk hk'
      rw [List.getElem_append_left hk, List.getElem_append_left hk']
      refine ⟨q1, by simp; omega, rest ++ wgL (al[i]'hi), ?_⟩
      rw [List.drop_append_of_le_length q2, q3, List.append_assoc]
    · have hke : k = i := by
        have := h.len
        simp at h1
        omega
      subst hke
      have e : (ins ++ [al.length])[k]'h1 = al.length := by
        rw [List.getElem_append_right (by omega)]
        simp
      rw [e, List.getElem_append_left hi]
      exact ⟨hi, by simp, [], by simp⟩
/-- What the inner loop of spread keeps. -/
structure Sp3 (W : World) (al X : List (List Cx)) (pv iv : Value) (A : List Addr) (ins : List Nat) (t : Nat) (av : Value) (w : World) : Prop where
  all : AsAt W w av (al ++ X.take t)
  inn : InAt W w iv ins
  ps : w.ownsRow W.heap.size 60 1 pv A.length (A.map fun a => Value.pointer (some a))
  bel : Below W.heap.size W w
theorem Sp3.next {W w w3 : World} {al X : List (List Cx)} {pv iv av v3 u : Value} {A : List Addr} {ins : List Nat} {t : Nat} {us : List Value} (h : Sp3 W al X pv iv A ins t av w) (ht : t < X.length) (hu : ClAt W u (X[t]'ht))
    (ho : w.ownsRow W.heap.size 22 1 av (al ++ X.take t).length us) (hf : F2 (fun u L => ClAt W u L) us (al ++ X.take t)) (hg : (w.alloc (.cells #[u] 22)).grownBy w3 av.ownBlock) (ho3 : w3.ownsRow W.heap.size 22 1 v3 ((al ++ X.take t).length + 1) (us ++ [u])) : Sp3 W al X pv iv A ins (t + 1) v3 w3 := by
  have ha : Below w.heap.size w (w.alloc (.cells #[u] 22)) := (Below.refl _ _).alloc (Nat.le_refl _) _
  have e : al ++ X.take (t + 1) = (al ++ X.take t) ++ [X[t]'ht] := by rw [List.take_add_one, List.getElem?_eq_getElem ht, Option.toList_some, List.append_assoc]
  refine ⟨⟨us ++ [u], ?_, ?_⟩, own_by h.inn ho (by decide) ha hg, own_by h.ps ho (by decide) ha hg, ?_⟩
  · rw [e, List.length_append (bs := [X[t]'ht])]
    exact ho3
  · rw [e]
    exact hf.append (.cons hu .nil)
  · exact (h.bel.alloc h.bel.size _).grown hg (h.bel.alloc h.bel.size _).size fun k hk => (own_at ho hk).1
end Go.Proofs.YtbeolmofnmnknaaGreatDoor.L
namespace Go.Proofs.YtbeolmofnmnknaaGreatDoor.L
open Go.RowKit
set_option maxRecDepth 100000

/-- Tasks in a row of its own: the values' slice, and where their list belongs. -/
def tsC (ts : List (Value × Addr)) : List Value := ts.flatMap fun x => [x.1, .pointer (some x.2)]
def TsR (B : Nat) (W : World) (v : Value) (ts : List (Value × Addr)) : Prop := W.ownsRow B 65 2 v ts.length (tsC ts)
theorem info71 : ∃ i z, Tryz.prog.info? 65 = some i ∧ i.zero = some z ∧ i.size = 2 ∧ i.bytes = 32 ∧ z.cells.size = 2 := ⟨_, _, by rfl, by rfl, by rfl, by rfl, by rfl⟩
theorem tsC_append (a b : List (Value × Addr)) : tsC (a ++ b) = tsC a ++ tsC b := by simp [tsC]
theorem own_cell {W : World} {B : Nat} {T : TypeId} {n i : Nat} {v : Value} {xs : List Value} (h : W.ownsRow B T 1 v n xs) (hi : i < n) : ∃ g c x, v = .slice (some ⟨g, 0, none⟩) n c ∧ g < W.heap.size ∧ B ≤ g ∧ n ≤ c ∧ c ≤ 9223372036854775807 ∧ xs[i]? = some x ∧ W.cell? ⟨g, i, none⟩ = some x := by
  rcases h.2 with ⟨_, e⟩ | ⟨g, cap, cur, rfl, h1, h2, h3, h4, h5, h6⟩
  · omega
  · have hl : i < xs.length := by have := h.1; omega
    refine ⟨g, cap, xs[i], rfl, (Array.getElem?_eq_some_iff.1 h2).1, h1, h3, h4, List.getElem?_eq_getElem hl, ?_⟩
    have := own_news h i _ (List.getElem?_eq_getElem hl)
    rw [Addr.add_mid, Nat.zero_add] at this
    exact this

set_option maxHeartbeats 1000000 in
theorem tasks_any {W0 W : World} {lo b : Nat} {ks : List (List V)} {us : List V} {va : Option Addr} {vn vc : Nat} {A : List Addr} (hk : Rk lo W0 b ks us W)
    (hw : Calls Tryz.prog 18 #[.slice va vn vc, .func (.func 42) #[] #[]] W fun e w' => ∃ v', e = .returned v' ∧ PsAt W.heap.size w' v' A ∧ Below W.heap.size W w') (hlen : A.length = ks.length) (hn : ks.length ≤ 1000000) :
    Calls Tryz.prog 23 #[.pointer (some ⟨b, 0, none⟩), .slice va vn vc] W fun e w' => ∃ v' ts, e = .returned v' ∧ (ks = [] → v' = .slice none 0 0) ∧ TsR W.heap.size w' v' ts ∧ ts.length = ks.length ∧ (∀ i (h : i < ts.length) (h' : i < A.length) (h'' : i < ks.length), (ts[i]'h).2 = (A[i]'h').add 6 ∧ VsAt (· < min lo b) W (ts[i]'h).1 (ks[i]'h'')) ∧ Below W.heap.size W w' := by
  obtain ⟨i0, z0, hi0, hz0, hz1, hz2, hz3⟩ := info71
  obtain ⟨kids, cs, hrd, hown, hks⟩ := hk.rd
  obtain ⟨a, n, cap, _, _, _, h1, _, _⟩ := hrd.see
  have hbl := hrd.lt
  have hcl : cs.length = ks.length := by have := hown.1; omega
  obtain ⟨ts, hts⟩ : ∃ ts : List (Value × Addr), ts = cs.zip (A.map fun x => x.add 6) := ⟨_, rfl⟩
  have htl : ts.length = ks.length := by rw [hts, List.length_zip, List.length_map, hcl, hlen, Nat.min_self]
  have hti : ∀ i (h : i < ts.length) (h' : i < A.length) (h'' : i < cs.length), ts[i]'h = (cs[i]'h'', (A[i]'h').add 6) := fun i h h' h'' => by
    simp [hts, List.getElem_zip]
  have HFIN : Hid (∀ i (h : i < ts.length) (h' : i < A.length) (h'' : i < ks.length), (ts[i]'h).2 = (A[i]'h').add 6 ∧ VsAt (· < min lo b) W (ts[i]'h).1 (ks[i]'h'')) := fun i h h' h'' => by
    have hic : i < cs.length := by omega
    obtain ⟨v, e, hv⟩ := hks i h''
    rw [List.getElem?_eq_getElem hic] at e
    cases e
    rw [hti i h h' hic]
    exact ⟨rfl, hv⟩
  have HCELL : Hid (∀ w', Below W.heap.size W w' → w'.cell? ⟨b, 1, none⟩ = some kids ∧ ∀ i (h : i < ks.length), ∃ g c x, kids = .slice (some ⟨g, 0, none⟩) ks.length c ∧ ks.length ≤ c ∧ c ≤ 9223372036854775807 ∧ cs[i]? = some x ∧ w'.cell? ⟨g, i, none⟩ = some x ∧ ∃ sa sn sc, x = .slice sa sn sc) := fun w' hB => by
    refine ⟨(hB.cell (p := ⟨b, 1, none⟩) hbl).trans (cellAt h1 1), fun i hi => ?_⟩
    obtain ⟨g, c, x, e1, e2, _, e3, e4, e5, e6⟩ := own_cell hown hi
    obtain ⟨v, e7, hv⟩ := hks i hi
    rw [e5] at e7
    cases e7
    obtain ⟨sa, sc, rfl, _, _⟩ := hv.slice
    exact ⟨g, c, _, e1, e3, e4, e5, (hB.cell (p := ⟨g, i, none⟩) e2).trans e6, _, _, _, rfl⟩
  obtain ⟨N, hN⟩ : ∃ N, N = ks.length := ⟨_, rfl⟩
  have HN := hid_mk hN
  have HTL : Hid (ts.length = N) := by rw [Hid, hN]; exact htl
  have HTI := hid_mk hti
  have HCL : Hid (cs.length = N) := by rw [Hid, hN]; exact hcl
  have HAL : Hid (A.length = N) := by rw [Hid, hN]; exact hlen
  rw [← hN] at hn HCELL
  clear hk hrd hown hks h1 hcl hts htl hti hlen hN
  go_enter Tryz.func23, Tryz.ntmps23
  go_wp2_with (go_at_call 18; fail)
  refine hw.mono ?_
  rintro e w1 ⟨v1, rfl, hps, hB1⟩
  have hps' : w1.ownsRow W.heap.size 60 1 v1 N (A.map fun a => Value.pointer (some a)) := by
    have := hps
    unfold PsAt at this
    rw [HAL.out] at this
    exact this
  have hsl : ∃ pa pc, v1 = .slice pa N pc := by
    rcases hps'.2 with ⟨rfl, e⟩ | ⟨g, cap, cur, rfl, _⟩
    · exact ⟨none, 0, by rw [e]⟩
    · exact ⟨_, _, rfl⟩
  obtain ⟨pa, pc, rfl⟩ := hsl
  have HPC : Hid (∀ i, i < N → ∃ g x, pa = some ⟨g, 0, none⟩ ∧ A[i]? = some x ∧ g < w1.heap.size ∧ w1.cell? ⟨g, i, none⟩ = some (.pointer (some x))) := fun i hi => by
    obtain ⟨g, c, x, e1, e2, _, _, _, e5, e6⟩ := own_cell hps' hi
    cases e1
    rw [List.getElem?_map] at e5
    cases hx : A[i]? with
    | none => rw [hx] at e5; cases e5
    | some y =>
      rw [hx] at e5
      cases e5
      exact ⟨g, y, rfl, rfl, e2, e6⟩
  have HB1 := hid_mk hB1
  have HT0 : Hid (TsR w1.heap.size w1 (.slice none 0 0) (ts.take 0)) := ⟨rfl, .inl ⟨rfl, rfl⟩⟩
  have hN9 : N ≤ 9223372036854775807 := by omega
  clear hw hps hps' hB1
  go_wp2
  go_loopw [5, 11] (fun a5 a11 wq => ∃ (i : Nat) (va : Option Addr) (vn vc : Nat), i ≤ N ∧ a11 = .int .i64 (i : Int) ∧ a5 = .slice va vn vc ∧ Hid (i = 0 → Value.slice va vn vc = .slice none 0 0) ∧ Hid (TsR w1.heap.size wq (.slice va vn vc) (ts.take i)) ∧ Hid (Below w1.heap.size w1 wq)) (fun _ a11 _ => N + 1 - (intOf a11).toNat)
  case atStart => exact ⟨0, _, _, _, Nat.zero_le _, rfl, rfl, fun _ => rfl, HT0, Below.refl _ _⟩
  case round =>
    obtain ⟨i, ta, tn, tc, hi, rfl, rfl, HNL, HT, HB⟩ := hrel
    clear HT0
    by_cases hil : i < N
    · obtain ⟨pg, x, rfl, hx, hpg, hpc⟩ := HPC.out i hil
      have p1 := (HB.out.cell (p := ⟨pg, i, none⟩) hpg).trans hpc
      have hBW : Below W.heap.size W wr := HB1.out.trans (HB.out.mono HB1.out.size)
      obtain ⟨c1, hcc⟩ := HCELL.out wr hBW
      obtain ⟨kg, kc, y, e1, hkc1, hkc2, hy, c2, sa, sn, sc, rfl⟩ := hcc i hil
      rw [e1] at c1
      have HTS : Hid (ts.take (i + 1) = ts.take i ++ [(.slice sa sn sc, x.add 6)]) := by
        have h1 : i < ts.length := by rw [HTL.out]; exact hil
        have h2 : i < A.length := by rw [HAL.out]; exact hil
        have h3 : i < cs.length := by rw [HCL.out]; exact hil
        rw [List.getElem?_eq_getElem h2] at hx
        rw [List.getElem?_eq_getElem h3] at hy
        rw [Hid, List.take_add_one, List.getElem?_eq_getElem h1, Option.toList_some, HTI.out i h1 h2 h3, Option.some.inj hx, Option.some.inj hy]
      have htl : (ts.take i).length = i := by rw [List.length_take, HTL.out]; omega
      have hown : wr.ownsRow w1.heap.size 65 2 (.slice ta tn tc) i (tsC (ts.take i)) := by
        have := HT.out
        unfold TsR at this
        rw [htl] at this
        exact this
      have HNX : Hid (∀ w3 v3 z, z = Value.slice sa sn sc → (wr.alloc (.cells #[z, .pointer (some (x.add 6))] 65)).drew.grownBy w3 (Value.slice ta tn tc).ownBlock → w3.ownsRow w1.heap.size 65 2 v3 (i + 1) (tsC (ts.take i) ++ [z, .pointer (some (x.add 6))]) → TsR w1.heap.size w3 v3 (ts.take (i + 1)) ∧ Below w1.heap.size w1 w3) := fun w3 v3 z hz hgr ho => by
        subst hz
        refine ⟨?_, ?_⟩
        · have hl2 : (ts.take (i + 1)).length = i + 1 := by rw [List.length_take, HTL.out]; omega
          unfold TsR
          rw [hl2, HTS.out, tsC_append]
          exact ho
        · have hB2 : Below w1.heap.size w1 (wr.alloc (.cells #[.slice sa sn sc, .pointer (some (x.add 6))] 65)).drew := (HB.out.alloc HB.out.size _).drew
          exact hB2.grown hgr hB2.size fun k hk => (hown.lt k hk).1
      have hd1 : (i : Int) < (N : Int) := by omega
      have hsz := HB.out.size
      obtain ⟨xb, xo, xs⟩ := x
      clear HT hcc e1 hx hy hpc htl
      go_upto_region 5 with (fail)
      go_region_law
        ((refine step_append_lies _ (by rfl) _ _ _ (by rfl) w1.heap.size 65 i0 z0 2 32 Tryz.underlying66 hi0 hz0 hz1 hz2 hz3 (by omega) (.slice ta tn tc) i (tsC (ts.take i)) (by rfl) ((hown.alloc _).drew)
            ⟨wr.heap.size, 0, none⟩ 1 1 [.slice sa sn sc, .pointer (some (Addr.add ⟨xb, xo, xs⟩ 6))] (by rfl) (by rfl) (World.news_of_block (cs := #[.slice sa sn sc, .pointer (some (Addr.add ⟨xb, xo, xs⟩ 6))]) (t := 65) (fr := (0, 0)) (heap_alloc_last wr _)) (by simp [Value.oneCell'])
            (by omega) (by unfold maxLen; omega) (by omega) (by simp; omega) (wr.heap.size + 1) (by simp) ?_
          intro gg cap5 w5 hown5 hgrow hgat hglt
          obtain ⟨hT5, hB5⟩ := HNX.out w5 _ _ rfl hgrow hown5
          have HT5 := hid_mk hT5
          have HB5 := hid_mk hB5
          clear hown5 hgrow hgat hglt hT5 hB5))
      all_goals go_wp2
      all_goals exact ⟨⟨i + 1, _, _, _, by omega, by go_num, rfl, (fun h => absurd h (by omega)), HT5, HB5⟩, by simp only [intOf]; omega⟩
    · have hie : i = N := by omega
      subst hie
      have HZ : Hid (TsR W.heap.size wr (.slice ta tn tc) ts ∧ Below W.heap.size W wr) := by
        have h1 := HT.out
        rw [List.take_of_length_le (by rw [HTL.out]; exact Nat.le_refl _)] at h1
        exact ⟨own_from h1 HB1.out.size, HB1.out.trans (HB.out.mono HB1.out.size)⟩
      clear HT hil
      go_wp2
      go_ret
      exact ⟨_, ts, rfl, (fun h => HNL.out (by rw [HN.out, h]; rfl)), HZ.out.1, by rw [HTL.out]; exact HN.out, HFIN.out, HZ.out.2⟩
end Go.Proofs.YtbeolmofnmnknaaGreatDoor.L
namespace Go.Proofs.YtbeolmofnmnknaaGreatDoor.L
open Go.RowKit
set_option maxRecDepth 100000

theorem own_low {w w' : World} {B n s : Nat} {T : TypeId} {v : Value} {xs : List Value} (h : w.ownsRow B T s v n xs) (hb : Below w.heap.size w w') : w'.ownsRow B T s v n xs := own_stayT h fun g _ hc _ => hb.block g (Array.getElem?_eq_some_iff.1 hc).1

set_option maxHeartbeats 1000000 in
theorem spread_any {W : World} {v : Value} {l : List Cx} (h : ClAt W v l) (hsz : szZ l ≤ 1000000) :
    Calls Tryz.prog 12 #[v] W fun e w' => ∃ av iv al ins, e = .returned (.tuple #[av, iv]) ∧ AsAt W w' av al ∧ InAt W w' iv ins ∧ Que l al ins al.length ∧ Below W.heap.size W w' := by
  obtain ⟨i0, z0, hi0, hz0, hz1, hz2, hz3⟩ := info23
  obtain ⟨i1, y0, hi1, hy0, hy1, hy2, hy3⟩ := info3
  obtain ⟨a, ll, cap, rfl⟩ : ∃ a n c, v = .slice a n c := by
    obtain ⟨_, _, ⟨a, cap, e, _⟩, _⟩ := h.at
    exact ⟨_, _, _, e⟩
  obtain ⟨W1, hW1⟩ : ∃ W1, W1 = W.alloc (.cells #[.slice a ll cap] 22) := ⟨_, rfl⟩
  have HA0 : Hid (∃ al ins, AsAt W W1 (.slice (some ⟨W.heap.size, 0, none⟩) 1 1) al ∧ InAt W W1 (.slice none 0 0) ins ∧ Que l al ins 0) := by
    refine ⟨[l], [], ⟨[.slice a ll cap], ?_, .cons h .nil⟩, ⟨rfl, .inl ⟨rfl, rfl⟩⟩, Que.start l⟩
    rw [hW1]
    exact own_new W 22 _
  have HB0 : Hid (Below W.heap.size W W1) := by rw [Hid, hW1]; exact (Below.refl _ _).alloc (Nat.le_refl _) _
  have HSZ := hid_mk hsz
  have HW1 := hid_mk hW1
  clear h hW1 hsz
  go_enter Tryz.func12, Tryz.ntmps12
  go_upto_region 3 with (fail)
  rw [← HW1.out]
  clear HW1
  go_wp2
  go_loopw [4, 5, 6] (fun a4 a5 a6 wq => ∃ (i : Nat) (aa : Option Addr) (an ac : Nat) (ia : Option Addr) (im ic : Nat), i ≤ 1000000 ∧ a6 = .int .i64 (i : Int) ∧ a4 = .slice aa an ac ∧ a5 = .slice ia im ic ∧ Hid (∃ al ins, AsAt W wq (.slice aa an ac) al ∧ InAt W wq (.slice ia im ic) ins ∧ Que l al ins i) ∧ Hid (Below W.heap.size W wq)) (fun _ _ a6 _ => 1000001 - (intOf a6).toNat)
  case atStart => exact ⟨0, _, _, _, _, _, _, Nat.zero_le _, rfl, rfl, rfl, HA0, HB0⟩
  case round =>
    obtain ⟨i, aa, an, ac, ia, im, ic, hi, rfl, rfl, rfl, HA, HB⟩ := hrel
    clear HA0 HB0
    obtain ⟨al, ins, ⟨us, hus, hf⟩, hin, hq⟩ := HA.out
    have hbig := Nat.le_trans hq.big HSZ.out
    have hle := hq.le
    have hnl : an = al.length := own_n hus
    by_cases hil : i < an
    · have hil' : i < al.length := by omega
      have hHin : (wr.alloc (.cells #[.int .i64 (an : Int)] 3)).ownsRow W.heap.size 3 1 (.slice ia im ic) ins.length (ins.map fun (n : Nat) => Value.int .i64 (n : Int)) := own_stayT hin fun g c hc _ => Below.heap_alloc _ _ _ (Array.getElem?_eq_some_iff.1 hc).1
      have HNX : Hid (∀ w3 v3, (wr.alloc (.cells #[.int .i64 (an : Int)] 3)).grownBy w3 (Value.slice ia im ic).ownBlock → w3.ownsRow W.heap.size 3 1 v3 (ins.length + 1) ((ins.map fun (n : Nat) => Value.int .i64 (n : Int)) ++ [.int .i64 (an : Int)]) → InAt W w3 v3 (ins ++ [al.length]) ∧ w3.ownsRow W.heap.size 22 1 (.slice aa an ac) al.length us ∧ Below W.heap.size W w3) := fun w3 v3 hgr ho => by
        have ha : Below wr.heap.size wr (wr.alloc (.cells #[.int .i64 (an : Int)] 3)) := (Below.refl _ _).alloc (Nat.le_refl _) _
        refine ⟨?_, own_by hus hin (by decide) ha hgr, ?_⟩
        · unfold InAt
          rw [List.length_append, List.map_append, ← hnl]
          exact ho
        · have hB2 : Below W.heap.size W (wr.alloc (.cells #[.int .i64 (an : Int)] 3)) := HB.out.alloc HB.out.size _
          exact hB2.grown hgr hB2.size fun k hk => (own_at hin hk).1
      have HOS : Hid (∀ u ∈ [Value.int .i64 (an : Int)], u.oneCell' = true) := by
        intro u hu
        rw [List.mem_singleton.1 hu]
        rfl
      have HON : Hid (∀ j u, [Value.int .i64 (an : Int)][j]? = some u → (wr.alloc (.cells #[.int .i64 (an : Int)] 3)).cell? (Addr.add ⟨wr.heap.size, 0, none⟩ j) = some u) := one_news
      have hszA : W.heap.size ≤ (wr.alloc (.cells #[.int .i64 (an : Int)] 3)).heap.size := by have := HB.out.size; simp; omega
      have hil1 : ins.length ≤ 1000000 := by have := hq.len; omega
      have HF := hid_mk hf
      have HQ := hid_mk hq
      have HLN := hid_mk hnl
      have hdl : (i : Int) < (an : Int) := by omega
      rw [← hnl] at hbig hle
      clear HA hf hus hin hq hnl
      go_wp2_with (at_builtin; with_reducible refine wpList_append_own _ rfl _ _ 24 rfl W.heap.size 3 i1 y0 1 8 Tryz.underlying24 hi1 hy0 hy1 hy2 hy3 (by decide) (.slice ia im ic) ins.length (ins.map fun (n : Nat) => Value.int .i64 (n : Int)) rfl hHin ⟨wr.heap.size, 0, none⟩ 1 1 [.int .i64 (an : Int)] rfl rfl HON.out HOS.out ?c1 ?c2 ?c3 ?_)
      case c1 => unfold maxLen; omega
      case c2 => omega
      case c3 => exact hszA
      intro v3 w3 ho3 hgr3 _
      obtain ⟨hin3, hus3, hB3⟩ := HNX.out w3 v3 hgr3 ho3
      obtain ⟨ea, en, ec, rfl⟩ := own_sl ho3
      obtain ⟨ag, agc, x, e1, hag, _, hc1, hc2, hx, cx⟩ := own_cell hus3 hil'
      have hxi : i < us.length := by have := HF.out.len; omega
      rw [List.getElem?_eq_getElem hxi] at hx
      have hcl := HF.out.get i hxi hil'
      rw [Option.some.inj hx] at hcl
      obtain ⟨xa, xn, xc, rfl⟩ : ∃ a n c, x = .slice a n c := by
        obtain ⟨_, _, ⟨a, cap, e, _⟩, _⟩ := hcl.at
        exact ⟨_, _, _, e⟩
      have HX2 : Hid ((wgL (al[i]'hil')).length + al.length ≤ 1000000) := by
        have h1 := (HQ.out.next hil').big
        rw [List.length_append] at h1
        have := HSZ.out
        rw [Hid]
        omega
      have hcall := within_in hcl hB3 (by have := HX2.out; omega)
      obtain ⟨rfl, rfl⟩ : aa = some ⟨ag, 0, none⟩ ∧ ac = agc := by
        cases e1
        exact ⟨rfl, rfl⟩
      rw [← HLN.out] at hc1
      have HI3 := hid_mk hin3
      have HU3 := hid_mk hus3
      have HB3 := hid_mk hB3
      clear HNX hHin ho3 hgr3 hin3 hus3 hB3 e1 hx HOS HON hcl hszA
      have HQN := hid_mk (HQ.out.next hil')
      generalize al[i]'hil' = L at *
      clear HQ
      go_wp2_with (go_at_call 18; fail)
      refine hcall.mono ?_
      rintro e w4 ⟨v4, A, rfl, hps, hls, hb4⟩
      obtain ⟨pa, pn, pc, rfl⟩ := own_sl hps
      have hpn : pn = A.length := own_n hps
      have HPC : Hid (∀ (k : Nat) (w : World), w.ownsRow W.heap.size 60 1 (.slice pa pn pc) A.length (A.map fun a => Value.pointer (some a)) → k < pn → ∃ g x, pa = some ⟨g, 0, none⟩ ∧ pn ≤ pc ∧ pc ≤ 9223372036854775807 ∧ A[k]? = some x ∧ w.cell? ⟨g, k, none⟩ = some (.pointer (some x))) := fun k w hp hk => by
        obtain ⟨g, c, x, e1, e2, _, q1, q2, e5, e6⟩ := own_cell hp (show k < A.length by omega)
        cases e1
        rw [List.getElem?_map] at e5
        cases hx : A[k]? with
        | none => rw [hx] at e5; cases e5
        | some y =>
          rw [hx] at e5
          cases e5
          exact ⟨g, y, rfl, q1, q2, rfl, e6⟩
      have HG0 : Hid (Sp3 W al (wgL L) (.slice pa pn pc) (.slice ea en ec) A (ins ++ [al.length]) 0 (.slice (some ⟨ag, 0, none⟩) an ac) w4) := by
        refine ⟨⟨us, ?_, ?_⟩, own_low HI3.out hb4, own_from hps HB3.out.size, HB3.out.trans (hb4.mono HB3.out.size)⟩
        · rw [List.take_zero, List.append_nil]
          exact own_low HU3.out hb4
        · rw [List.take_zero, List.append_nil]
          exact HF.out
      have HLS := hid_mk hls
      have HPN : Hid (pn = (wgL L).length) := hpn.trans hls.len
      have hpn9 : pn + an ≤ 1000000 := by
        have h1 := HX2.out
        have h2 := HPN.out
        have h3 := HLN.out
        omega
      generalize wgL L = X at *
      clear hcall hps hls hb4 hpn HI3 HU3 HB3 HF cx hag
      go_wp2
      go_loopw [4, 28] (fun a4 a28 wq => ∃ (t : Nat) (aa : Option Addr) (am ac : Nat), t ≤ pn ∧ a28 = .int .i64 (t : Int) ∧ a4 = .slice aa am ac ∧ Hid (Sp3 W al X (.slice pa pn pc) (.slice ea en ec) A (ins ++ [al.length]) t (.slice aa am ac) wq)) (fun _ a28 _ => pn + 1 - (intOf a28).toNat)
      case atStart => exact ⟨0, _, _, _, Nat.zero_le _, rfl, rfl, HG0⟩
      case round =>
        obtain ⟨t, ba, bn, bc, ht, rfl, rfl, HG⟩ := hrel
        clear HG0
        by_cases htl : t < pn
        · obtain ⟨pg, x, rfl, hpc1, hpc2, hx, hcx⟩ := HPC.out t wr HG.out.ps htl
          have htA : t < A.length := (List.getElem?_eq_some_iff.1 hx).1
          have htX : t < X.length := by have := HPN.out; omega
          rw [List.getElem?_eq_getElem htA] at hx
          obtain ⟨xg, xo, u, hxe, hxg, hu, hucl⟩ := HLS.out.get t htA htX
          rw [Option.some.inj hx] at hxe
          subst hxe
          obtain ⟨ua, un, uc, rfl⟩ : ∃ a n c, u = .slice a n c := by
            obtain ⟨_, _, ⟨a, cap, e, _⟩, _⟩ := hucl.at
            exact ⟨_, _, _, e⟩
          have hu' := (HG.out.bel.cell (p := ⟨xg, xo + 6, none⟩) hxg).trans hu
          obtain ⟨vs, hvs, hvf⟩ := HG.out.all
          have hnn : (al ++ X.take t).length + 1 ≤ 1000000 := by
            have h1 := HPN.out
            have h2 := HLN.out
            rw [List.length_append, List.length_take]
            omega
          have hown : (wr.alloc (.cells #[.slice ua un uc] 22)).ownsRow W.heap.size 22 1 (.slice ba bn bc) (al ++ X.take t).length vs := own_stayT hvs fun g c hc _ => Below.heap_alloc _ _ _ (Array.getElem?_eq_some_iff.1 hc).1
          have HNX : Hid (∀ w3 v3, (wr.alloc (.cells #[.slice ua un uc] 22)).grownBy w3 (Value.slice ba bn bc).ownBlock → w3.ownsRow W.heap.size 22 1 v3 ((al ++ X.take t).length + 1) (vs ++ [.slice ua un uc]) → Sp3 W al X (.slice (some ⟨pg, 0, none⟩) pn pc) (.slice ea en ec) A (ins ++ [al.length]) (t + 1) v3 w3) := fun w3 v3 hg ho => HG.out.next htX hucl hvs hvf hg ho
          have HOS : Hid (∀ z ∈ [Value.slice ua un uc], z.oneCell' = true) := by
            intro z hz
            rw [List.mem_singleton.1 hz]
            rfl
          have HON : Hid (∀ j z, [Value.slice ua un uc][j]? = some z → (wr.alloc (.cells #[.slice ua un uc] 22)).cell? (Addr.add ⟨wr.heap.size, 0, none⟩ j) = some z) := one_news
          have hszA : W.heap.size ≤ (wr.alloc (.cells #[.slice ua un uc] 22)).heap.size := by have := HG.out.bel.size; simp; omega
          generalize (al ++ X.take t).length = nn at *
          have hdt : (t : Int) < (pn : Int) := by omega
          clear hvs hvf hu hucl hx HG HLS HPC HQN
          go_wp2_with (at_builtin; with_reducible refine wpList_append_own _ rfl _ _ 43 rfl W.heap.size 22 i0 z0 1 24 Tryz.underlying43 hi0 hz0 hz1 hz2 hz3 (by decide) (.slice ba bn bc) nn vs rfl hown ⟨wr.heap.size, 0, none⟩ 1 1 [.slice ua un uc] rfl rfl HON.out HOS.out ?c1 ?c2 ?c3 ?_)
          case c1 => unfold maxLen; omega
          case c2 => omega
          case c3 => exact hszA
          intro v5 w5 ho5 hgr5 _
          have HG5 := hid_mk (HNX.out w5 v5 hgr5 ho5)
          obtain ⟨fa, fn, fc, rfl⟩ := own_sl ho5
          clear ho5 hgr5 HNX hown hu' hcx HON HOS hszA
          go_wp2
          exact ⟨⟨t + 1, _, _, _, by omega, by go_num, rfl, HG5⟩, by simp only [intOf]; omega⟩
        · have hte : t = pn := by omega
          subst hte
          have HAN : Hid (∃ al ins, AsAt W wr (.slice ba bn bc) al ∧ InAt W wr (.slice ea en ec) ins ∧ Que l al ins (i + 1)) := by
            refine ⟨_, _, ?_, HG.out.inn, HQN.out⟩
            have h1 := HG.out.all
            rw [HPN.out, List.take_length] at h1
            exact h1
          have HBN := hid_mk HG.out.bel
          clear HG HQN HLS HPC htl
          go_wp2
          exact ⟨⟨i + 1, _, _, _, _, _, _, by omega, by go_num, rfl, rfl, HAN, HBN⟩, by simp only [intOf]; omega⟩
    · have hie : i = an := by omega
      have HFIN : Hid (∃ al ins, AsAt W wr (.slice aa an ac) al ∧ InAt W wr (.slice ia im ic) ins ∧ Que l al ins al.length) := by
        refine ⟨al, ins, ⟨us, hus, hf⟩, hin, ?_⟩
        rw [← hnl, ← hie]
        exact hq
      clear HA hf hus hin hq hnl hbig hle hil
      subst hie
      go_wp2
      go_ret2
      obtain ⟨al, ins, h1, h2, h3⟩ := HFIN.out
      exact ⟨_, _, al, ins, rfl, h1, h2, h3, HB.out⟩
end Go.Proofs.YtbeolmofnmnknaaGreatDoor.L
