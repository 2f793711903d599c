/- Elements and trees of them: plain mathematics, no memory. What calls make of a tree is a tree: plain mathematics. -/
namespace Go.Proofs.YtdiljkmlneeboaaGreat.N

/-- An element. -/
structure El where
  id : Int
  tag : ByteArray
  par : Int
  ks : List Int
  us : List (ByteArray × ByteArray)
/-- What is there for each number. -/
abbrev M := Int → Option El
def mset (m : M) (n : Int) (e : El) : M := fun k => if k = n then some e else m k
def mcut (m : M) (l : List Int) : M := fun k => if k ∈ l then none else m k
theorem mset_same (m : M) (n : Int) (e : El) : mset m n e n = some e := by simp [mset]
theorem mset_ne {m : M} {n k : Int} {e : El} (h : k ≠ n) : mset m n e k = m k := by simp [mset, h]
theorem mset_some {m : M} {n k : Int} {e e' : El} (h : mset m n e k = some e') : (k = n ∧ e' = e) ∨ (k ≠ n ∧ m k = some e') := by
  unfold mset at h
  split at h
  · rename_i hk
    exact .inl ⟨hk, (Option.some.inj h).symm⟩
  · rename_i hk
    exact .inr ⟨hk, h⟩
theorem mcut_some {m : M} {l : List Int} {k : Int} {e : El} : mcut m l k = some e ↔ k ∉ l ∧ m k = some e := by
  unfold mcut
  split <;> simp [*]
def kidsOf (m : M) (n : Int) : List Int := match m n with
  | none => []
  | some e => e.ks
theorem kidsOf_some {m : M} {n : Int} {e : El} (h : m n = some e) : kidsOf m n = e.ks := by simp [kidsOf, h]
theorem kidsOf_none {m : M} {n : Int} (h : m n = none) : kidsOf m n = [] := by simp [kidsOf, h]
theorem mem_kidsOf {m : M} {n k : Int} (h : k ∈ kidsOf m n) : ∃ e, m n = some e ∧ k ∈ e.ks := by
  cases e : m n with
  | none => rw [kidsOf_none e] at h; cases h
  | some x => rw [kidsOf_some e] at h; exact ⟨x, rfl, h⟩
/-- A tree: numbers below nx, each element's depth by d. -/
structure Inv (uok : List (ByteArray × ByteArray) → Prop) (m : M) (nx : Int) (d : Int → Nat) : Prop where
  id : ∀ {n e}, m n = some e → e.id = n
  lo : ∀ {n e}, m n = some e → 1 ≤ n ∧ n < nx
  root : ∃ e, m 1 = some e ∧ e.par = 0
  par : ∀ {n e}, m n = some e → n ≠ 1 → ∃ p, m e.par = some p ∧ n ∈ p.ks
  kid : ∀ {n e k}, m n = some e → k ∈ e.ks → ∃ c, m k = some c ∧ c.par = n
  nd : ∀ {n e}, m n = some e → e.ks.Nodup
  dep1 : d 1 = 1
  dep : ∀ {n e}, m n = some e → n ≠ 1 → d n = d e.par + 1
  top : ∀ {n e}, m n = some e → d n ≤ 512
  us : ∀ {n e}, m n = some e → uok e.us
  nxb : 2 ≤ nx ∧ nx ≤ 100000
variable {uok : List (ByteArray × ByteArray) → Prop} {m : M} {nx : Int} {d : Int → Nat}
theorem Inv.zero (I : Inv uok m nx d) : m 0 = none := by
  cases e : m 0 with
  | none => rfl
  | some x => have := I.lo e; omega
theorem Inv.out (I : Inv uok m nx d) {n : Int} (h : n < 1 ∨ nx ≤ n) : m n = none := by
  cases e : m n with
  | none => rfl
  | some x => have := I.lo e; omega
theorem Inv.pos (I : Inv uok m nx d) {n : Int} {e : El} (h : m n = some e) : 1 ≤ d n := by
  by_cases h1 : n = 1
  · rw [h1, I.dep1]; exact Nat.le_refl _
  · rw [I.dep h h1]; omega
theorem Inv.kidne (I : Inv uok m nx d) {n : Int} {e : El} {k : Int} (h : m n = some e) (hk : k ∈ e.ks) : k ≠ 1 := by
  intro h1
  obtain ⟨c, hc, hp⟩ := I.kid h hk
  obtain ⟨r, hr, h0⟩ := I.root
  rw [h1, hr] at hc
  cases hc
  have := I.lo h
  omega
theorem Inv.parRoot (I : Inv uok m nx d) {n : Int} {e : El} (h : m n = some e) : e.par = 0 ↔ n = 1 := by
  constructor
  · intro h0
    refine Classical.byContradiction fun h1 => ?_
    obtain ⟨p, hp, _⟩ := I.par h h1
    rw [h0, I.zero] at hp
    cases hp
  · intro h1
    subst h1
    obtain ⟨r, hr, h0⟩ := I.root
    rw [hr] at h
    cases h
    exact h0
theorem len_range {l : List Int} {a b : Int} (hn : l.Nodup) (h : ∀ x ∈ l, a ≤ x ∧ x < b) : (l.length : Int) ≤ max 0 (b - a) := by
  have := hn.length_le_of_subset (l₂ := (List.range (b - a).toNat).map fun (i : Nat) => a + (i : Int)) (fun x hx => by
    have := h x hx
    exact List.mem_map.2 ⟨(x - a).toNat, List.mem_range.2 (by omega), by omega⟩)
  rw [List.length_map, List.length_range] at this
  omega
theorem Inv.ksLen (I : Inv uok m nx d) {n : Int} {e : El} (h : m n = some e) : (e.ks.length : Int) + 1 < nx := by
  have := len_range (I.nd h) (a := 2) (b := nx) (fun x hx => by
    obtain ⟨c, hc, _⟩ := I.kid h hx
    have := I.lo hc
    have := I.kidne h hx
    omega)
  have := I.nxb
  omega

/-- An element, its parent, and so on. -/
def upL (m : M) : Nat → Int → List Int
  | 0, _ => []
  | f + 1, n => match m n with
    | none => []
    | some e => n :: upL m f e.par
theorem upL_none {f : Nat} {n : Int} (h : m n = none) : upL m f n = [] := by
  cases f with
  | zero => rfl
  | succ f => simp [upL, h]
theorem upL_some {f : Nat} {n : Int} {e : El} (h : m n = some e) : upL m (f + 1) n = n :: upL m f e.par := by simp [upL, h]
theorem upL_len (I : Inv uok m nx d) : ∀ (f : Nat) (n : Int) (e : El), m n = some e → d n ≤ f → (upL m f n).length = d n
  | 0, n, e, h, hf => by have := I.pos h; omega
  | f + 1, n, e, h, hf => by
    rw [upL_some h]
    by_cases h1 : n = 1
    · have h0 := (I.parRoot h).2 h1
      rw [h0, upL_none I.zero, h1, I.dep1]
      rfl
    · obtain ⟨p, hp, _⟩ := I.par h h1
      have := I.dep h h1
      rw [List.length_cons, upL_len I f _ p hp (by omega), this]
theorem upL_stable (I : Inv uok m nx d) : ∀ (f g : Nat) (n : Int), (∀ e, m n = some e → d n ≤ f ∧ d n ≤ g) → upL m f n = upL m g n
  | f, g, n, hh => by
    cases h : m n with
    | none => rw [upL_none h, upL_none h]
    | some e =>
      have hp := I.pos h
      have hfg := hh e h
      cases f with
      | zero => omega
      | succ f =>
        cases g with
        | zero => omega
        | succ g =>
          rw [upL_some h, upL_some h, upL_stable I f g e.par (fun p hp' => by
            by_cases h1 : n = 1
            · rw [(I.parRoot h).2 h1, I.zero] at hp'; cases hp'
            · have := I.dep h h1
              omega)]
def ups (m : M) (n : Int) : List Int := upL m 512 n
theorem ups_none {n : Int} (h : m n = none) : ups m n = [] := upL_none h
theorem ups_some (I : Inv uok m nx d) {n : Int} {e : El} (h : m n = some e) : ups m n = n :: ups m e.par := by
  unfold ups
  rw [show (512 : Nat) = 511 + 1 from rfl, upL_some h, upL_stable I 511 (511 + 1) e.par (fun p hp => by
    by_cases h1 : n = 1
    · rw [(I.parRoot h).2 h1, I.zero] at hp; cases hp
    · have := I.dep h h1
      have := I.top h
      omega)]
theorem ups_len (I : Inv uok m nx d) {n : Int} {e : El} (h : m n = some e) : (ups m n).length = d n := upL_len I _ _ e h (I.top h)
theorem ups_mem (I : Inv uok m nx d) {k : Int} : ∀ (f : Nat) (n : Int), k ∈ upL m f n → ∃ e, m k = some e
  | 0, n, h => by cases h
  | f + 1, n, h => by
    cases e : m n with
    | none => rw [upL_none e] at h; cases h
    | some x =>
      rw [upL_some e] at h
      rcases List.mem_cons.1 h with rfl | h
      · exact ⟨x, e⟩
      · exact ups_mem I f _ h
theorem ups_dep (I : Inv uok m nx d) {k : Int} : ∀ (f : Nat) (n : Int), k ∈ upL m f n → d k ≤ d n
  | 0, n, h => by cases h
  | f + 1, n, h => by
    cases e : m n with
    | none => rw [upL_none e] at h; cases h
    | some x =>
      rw [upL_some e] at h
      rcases List.mem_cons.1 h with rfl | h
      · exact Nat.le_refl _
      · have := ups_dep I f _ h
        by_cases h1 : n = 1
        · rw [(I.parRoot e).2 h1, upL_none I.zero] at h; cases h
        · have := I.dep e h1
          omega
theorem root_ups (I : Inv uok m nx d) : ∀ (f : Nat) (n : Int) (e : El), m n = some e → d n ≤ f → 1 ∈ upL m f n
  | 0, n, e, h, hf => by have := I.pos h; omega
  | f + 1, n, e, h, hf => by
    rw [upL_some h]
    by_cases h1 : n = 1
    · rw [h1]; exact List.mem_cons_self
    · obtain ⟨p, hp, _⟩ := I.par h h1
      have := I.dep h h1
      exact List.mem_cons_of_mem _ (root_ups I f _ p hp (by omega))

/-- Those k levels below an element. -/
def lev (m : M) (id : Int) : Nat → List Int
  | 0 => [id]
  | k + 1 => (lev m id k).flatMap (kidsOf m)
theorem lev_mem (I : Inv uok m nx d) {id : Int} {e0 : El} (h0 : m id = some e0) : ∀ (k : Nat) (n : Int), n ∈ lev m id k → (∃ e, m n = some e) ∧ d n = d id + k
  | 0, n, h => by
    rw [lev, List.mem_singleton] at h
    subst h
    exact ⟨⟨e0, h0⟩, rfl⟩
  | k + 1, n, h => by
    obtain ⟨q, hq, hn⟩ := List.mem_flatMap.1 h
    obtain ⟨e, he, hk⟩ := mem_kidsOf hn
    obtain ⟨c, hc, hp⟩ := I.kid he hk
    have h1 := I.kidne he hk
    refine ⟨⟨c, hc⟩, ?_⟩
    rw [I.dep hc h1, hp, (lev_mem I h0 k q hq).2]
    omega
theorem lev_nodup (I : Inv uok m nx d) {id : Int} {e0 : El} (h0 : m id = some e0) : ∀ k, (lev m id k).Nodup
  | 0 => by simp [lev]
  | k + 1 => by
    rw [lev]
    refine List.pairwise_flatMap.2 ⟨fun a ha => ?_, (lev_nodup I h0 k).imp fun {a b} hab x hx y hy hxy => ?_⟩
    · obtain ⟨⟨e, he⟩, _⟩ := lev_mem I h0 k a ha
      rw [kidsOf_some he]
      exact I.nd he
    · subst hxy
      obtain ⟨e, he, h1⟩ := mem_kidsOf hx
      obtain ⟨e', he', h2⟩ := mem_kidsOf hy
      obtain ⟨c, hc, hp⟩ := I.kid he h1
      obtain ⟨c', hc', hp'⟩ := I.kid he' h2
      rw [hc] at hc'
      cases hc'
      exact hab (hp.symm.trans hp')
theorem lev_end (I : Inv uok m nx d) {id : Int} {e0 : El} (h0 : m id = some e0) {k : Nat} (hk : 512 < d id + k) : lev m id k = [] := by
  rw [List.eq_nil_iff_forall_not_mem]
  intro n hn
  obtain ⟨⟨e, he⟩, h⟩ := lev_mem I h0 k n hn
  have := I.top he
  omega
theorem lev_nil {id : Int} {h : Nat} (hh : lev m id h = []) : ∀ j, lev m id (h + j) = []
  | 0 => hh
  | j + 1 => by rw [← Nat.add_assoc, lev, lev_nil hh j]; rfl
/-- The first h levels. -/
def levs (m : M) (id : Int) (h : Nat) : List Int := (List.range h).flatMap (lev m id)
theorem levs_succ (id : Int) (h : Nat) : levs m id (h + 1) = levs m id h ++ lev m id h := by
  simp [levs, List.range_succ]
theorem levs_mem {id : Int} {h : Nat} {n : Int} : n ∈ levs m id h ↔ ∃ k, k < h ∧ n ∈ lev m id k := by
  simp [levs, List.mem_flatMap]
theorem levs_nodup (I : Inv uok m nx d) {id : Int} {e0 : El} (h0 : m id = some e0) (h : Nat) : (levs m id h).Nodup := by
  refine List.pairwise_flatMap.2 ⟨fun a _ => lev_nodup I h0 a, (List.nodup_range (n := h)).imp fun {a b} hab x hx y hy hxy => ?_⟩
  subst hxy
  have h1 := (lev_mem I h0 a x hx).2
  have h2 := (lev_mem I h0 b x hy).2
  omega
theorem levs_len (I : Inv uok m nx d) {id : Int} {e0 : El} (h0 : m id = some e0) (h : Nat) : ((levs m id h).length : Int) < nx := by
  have := len_range (levs_nodup I h0 h) (a := 1) (b := nx) (fun x hx => by
    obtain ⟨k, _, hk⟩ := levs_mem.1 hx
    obtain ⟨⟨e, he⟩, _⟩ := lev_mem I h0 k x hk
    exact I.lo he)
  have := I.nxb
  omega
theorem up_lev (I : Inv uok m nx d) {id : Int} : ∀ (f : Nat) (n : Int) (e : El), m n = some e → id ∈ upL m f n → ∃ k, n ∈ lev m id k
  | 0, n, e, h, hm => by cases hm
  | f + 1, n, e, h, hm => by
    rw [upL_some h] at hm
    rcases List.mem_cons.1 hm with rfl | hm
    · exact ⟨0, by simp [lev]⟩
    · by_cases h1 : n = 1
      · rw [(I.parRoot h).2 h1, upL_none I.zero] at hm; cases hm
      · obtain ⟨p, hp, hk⟩ := I.par h h1
        obtain ⟨k, hl⟩ := up_lev I f _ p hp hm
        exact ⟨k + 1, List.mem_flatMap.2 ⟨_, hl, by rw [kidsOf_some hp]; exact hk⟩⟩
theorem lev_up (I : Inv uok m nx d) {id : Int} {e0 : El} (h0 : m id = some e0) : ∀ (k : Nat) (n : Int), n ∈ lev m id k → id ∈ ups m n
  | 0, n, h => by
    rw [lev, List.mem_singleton] at h
    subst h
    rw [ups_some I h0]
    exact List.mem_cons_self
  | k + 1, n, h => by
    obtain ⟨q, hq, hn⟩ := List.mem_flatMap.1 h
    obtain ⟨e, he, hk⟩ := mem_kidsOf hn
    obtain ⟨c, hc, hp⟩ := I.kid he hk
    rw [ups_some I hc, hp]
    exact List.mem_cons_of_mem _ (lev_up I h0 k q hq)
/-- All of an element: it and those below it. -/
structure Full (m : M) (id : Int) (h : Nat) : Prop where
  pos : 1 ≤ h
  fin : lev m id h = []
  on : ∀ k, k < h → lev m id k ≠ []
theorem Full.mem {id : Int} {h : Nat} (F : Full m id h) {k : Nat} {n : Int} (hn : n ∈ lev m id k) : n ∈ levs m id h := by
  refine levs_mem.2 ⟨k, Classical.byContradiction fun hk => ?_, hn⟩
  have := lev_nil F.fin (k - h)
  rw [show h + (k - h) = k by omega] at this
  rw [this] at hn
  cases hn
theorem Full.iff {id : Int} {h : Nat} (F : Full m id h) (I : Inv uok m nx d) {e0 : El} (h0 : m id = some e0) {n : Int} {e : El} (hn : m n = some e) : n ∈ levs m id h ↔ id ∈ ups m n := by
  constructor
  · intro hm
    obtain ⟨k, _, hk⟩ := levs_mem.1 hm
    exact lev_up I h0 k n hk
  · intro hm
    obtain ⟨k, hk⟩ := up_lev I 512 n e hn hm
    exact F.mem hk
theorem full_some {id : Int} {h : Nat} (I : Inv uok m nx d) {e0 : El} (h0 : m id = some e0) {n : Int} (hn : n ∈ levs m id h) : ∃ e, m n = some e := by
  obtain ⟨k, _, hk⟩ := levs_mem.1 hn
  exact (lev_mem I h0 k n hk).1
theorem Full.self {id : Int} {h : Nat} (F : Full m id h) : id ∈ levs m id h := levs_mem.2 ⟨0, F.pos, by simp [lev]⟩
/-- A kid of who is not there is there only if it is the element itself. -/
theorem Full.kid {id : Int} {h : Nat} (F : Full m id h) (I : Inv uok m nx d) {e0 : El} (h0 : m id = some e0) {n k : Int} {e : El} (hn : m n = some e) (hk : k ∈ e.ks) : k ∈ levs m id h ↔ n ∈ levs m id h ∨ k = id := by
  constructor
  · intro hm
    obtain ⟨j, _, hj⟩ := levs_mem.1 hm
    cases j with
    | zero => rw [lev, List.mem_singleton] at hj; exact .inr hj
    | succ j =>
      obtain ⟨q, hq, hkq⟩ := List.mem_flatMap.1 hj
      obtain ⟨e', he', hk'⟩ := mem_kidsOf hkq
      obtain ⟨c, hc, hp⟩ := I.kid hn hk
      obtain ⟨c', hc', hp'⟩ := I.kid he' hk'
      rw [hc] at hc'
      cases hc'
      rw [← hp, hp']
      exact .inl (F.mem hq)
  · rintro (hm | rfl)
    · obtain ⟨j, _, hj⟩ := levs_mem.1 hm
      exact F.mem (k := j + 1) (List.mem_flatMap.2 ⟨n, hj, by rw [kidsOf_some hn]; exact hk⟩)
    · exact F.self
/-- How deep what is below goes. -/
theorem Full.deep {id : Int} {h : Nat} (_F : Full m id h) (I : Inv uok m nx d) {e0 : El} (h0 : m id = some e0) {n : Int} (hn : n ∈ levs m id h) : d id ≤ d n ∧ d n + 1 ≤ d id + h := by
  obtain ⟨k, hk, hm⟩ := levs_mem.1 hn
  have := (lev_mem I h0 k n hm).2
  omega
theorem Full.last {id : Int} {h : Nat} (F : Full m id h) (I : Inv uok m nx d) {e0 : El} (h0 : m id = some e0) : ∃ n, n ∈ levs m id h ∧ d n + 1 = d id + h := by
  have hp := F.pos
  obtain ⟨n, hn⟩ := List.exists_mem_of_ne_nil _ (F.on (h - 1) (by omega))
  have := (lev_mem I h0 _ n hn).2
  exact ⟨n, F.mem hn, by omega⟩

end Go.Proofs.YtdiljkmlneeboaaGreat.N
namespace Go.Proofs.YtdiljkmlneeboaaGreat.N

variable {uok : List (ByteArray × ByteArray) → Prop} {m : M} {nx : Int} {d : Int → Nat}
def ins (l : List Int) (i : Nat) (x : Int) : List Int := l.take i ++ [x] ++ l.drop i
def rmv (l : List Int) (x : Int) : List Int := l.filter fun y => y != x
theorem ins_perm (l : List Int) (i : Nat) (x : Int) : (ins l i x).Perm (x :: l) := by
  unfold ins
  rw [List.append_assoc]
  refine List.perm_middle.trans ?_
  exact (List.Perm.of_eq (List.take_append_drop i l)).cons x
theorem mem_ins {l : List Int} {i : Nat} {x y : Int} : y ∈ ins l i x ↔ y = x ∨ y ∈ l := by
  rw [(ins_perm l i x).mem_iff, List.mem_cons]
theorem ins_nodup {l : List Int} {i : Nat} {x : Int} (hn : l.Nodup) (hx : x ∉ l) : (ins l i x).Nodup :=
  (ins_perm l i x).nodup_iff.2 (List.nodup_cons.2 ⟨hx, hn⟩)
theorem mem_rmv {l : List Int} {x y : Int} : y ∈ rmv l x ↔ y ∈ l ∧ y ≠ x := by simp [rmv]
theorem rmv_nodup {l : List Int} {x : Int} (hn : l.Nodup) : (rmv l x).Nodup := hn.sublist List.filter_sublist
theorem rmv_none {l : List Int} {x : Int} (h : x ∉ l) : rmv l x = l := by
  refine List.filter_eq_self.2 fun a ha => ?_
  simp only [bne_iff_ne, ne_eq]
  rintro rfl
  exact h ha
theorem rmv_at {l : List Int} {x : Int} (hn : l.Nodup) {k : Nat} (hk : l[k]? = some x) : l.take k ++ l.drop (k + 1) = rmv l x := by
  have hl := (List.getElem?_eq_some_iff.1 hk).1
  rw [← List.eraseIdx_eq_take_drop_succ, rmv, ← hn.erase_eq_filter]
  symm
  refine List.erase_eq_eraseIdx_of_idxOf (i := k) ?_
  have h1 : l[k] = x := (List.getElem?_eq_some_iff.1 hk).2
  rw [← h1]
  exact hn.idxOf_getElem k hl
theorem Inv.new (h0 : uok []) (tag : ByteArray) : Inv uok (mset (fun _ => none) 1 ⟨1, tag, 0, [], []⟩) 2 (fun _ => 1) := by
  have hs : ∀ {n e}, mset (fun _ => none) 1 ⟨1, tag, 0, [], []⟩ n = some e → n = 1 ∧ e = ⟨1, tag, 0, [], []⟩ := by
    intro n e h
    rcases mset_some h with h | ⟨_, h⟩
    · exact h
    · cases h
  refine ⟨?_, ?_, ⟨_, mset_same _ _ _, rfl⟩, ?_, ?_, ?_, rfl, ?_, ?_, ?_, by omega⟩
  · intro n e h; obtain ⟨rfl, rfl⟩ := hs h; rfl
  · intro n e h; obtain ⟨rfl, rfl⟩ := hs h; omega
  · intro n e h h1; exact absurd (hs h).1 h1
  · intro n e k h hk; obtain ⟨rfl, rfl⟩ := hs h; cases hk
  · intro n e h; obtain ⟨rfl, rfl⟩ := hs h; exact List.nodup_nil
  · intro n e h h1; exact absurd (hs h).1 h1
  · intro n e h; decide
  · intro n e h; obtain ⟨rfl, rfl⟩ := hs h; exact h0
theorem Inv.insert (I : Inv uok m nx d) {p : Int} {e : El} (hp : m p = some e) (hd : d p < 512) (hn : nx < 100000) (i : Nat) (tag : ByteArray) (h0 : uok []) :
    Inv uok (mset (mset m nx ⟨nx, tag, p, [], []⟩) p { e with ks := ins e.ks i nx }) (nx + 1) (fun k => if k = nx then d p + 1 else d k) := by
  have hpl := I.lo hp
  have hpn : p ≠ nx := by omega
  have hnx : m nx = none := I.out (.inr (Int.le_refl _))
  have nxb := I.nxb
  have hsome : ∀ {k e'}, m k = some e' → k ≠ nx := by
    intro k e' h hk
    have := I.lo h
    omega
  generalize hm : mset (mset m nx ⟨nx, tag, p, [], []⟩) p { e with ks := ins e.ks i nx } = m'
  have hat : m' p = some { e with ks := ins e.ks i nx } := by rw [← hm]; exact mset_same _ _ _
  have hnew : m' nx = some ⟨nx, tag, p, [], []⟩ := by rw [← hm, mset_ne (Ne.symm hpn)]; exact mset_same _ _ _
  have hs : ∀ {k e'}, m' k = some e' → (k = p ∧ e' = { e with ks := ins e.ks i nx }) ∨ (k = nx ∧ e' = ⟨nx, tag, p, [], []⟩) ∨ (k ≠ p ∧ k ≠ nx ∧ m k = some e') := by
    intro k e' h
    rw [← hm] at h
    rcases mset_some h with h | ⟨h1, h⟩
    · exact .inl h
    · rcases mset_some h with h | ⟨h2, h⟩
      · exact .inr (.inl h)
      · exact .inr (.inr ⟨h1, h2, h⟩)
  have hup : ∀ {q eq}, m q = some eq → ∃ eq', m' q = some eq' ∧ (∀ x ∈ eq.ks, x ∈ eq'.ks) ∧ eq'.par = eq.par := by
    intro q eq h
    by_cases hq : q = p
    · subst hq
      rw [hp] at h
      cases h
      exact ⟨_, hat, fun x hx => mem_ins.2 (.inr hx), rfl⟩
    · exact ⟨eq, by rw [← hm, mset_ne hq, mset_ne (hsome h)]; exact h, fun x hx => hx, rfl⟩
  refine ⟨?_, ?_, ?_, ?_, ?_, ?_, ?_, ?_, ?_, ?_, by omega⟩
  · intro n e' h
    rcases hs h with ⟨rfl, rfl⟩ | ⟨rfl, rfl⟩ | ⟨_, _, h⟩
    · have := I.id hp; exact this
    · rfl
    · exact I.id h
  · intro n e' h
    rcases hs h with ⟨rfl, rfl⟩ | ⟨rfl, rfl⟩ | ⟨_, _, h⟩
    · omega
    · omega
    · have := I.lo h; omega
  · obtain ⟨r, hr, h0⟩ := I.root
    obtain ⟨r', hr', _, hq⟩ := hup hr
    exact ⟨r', hr', hq.trans h0⟩
  · intro n e' h h1
    rcases hs h with ⟨rfl, rfl⟩ | ⟨rfl, rfl⟩ | ⟨_, _, h⟩
    · obtain ⟨q, hq, hk⟩ := I.par hp h1
      obtain ⟨q', hq', hk', _⟩ := hup hq
      exact ⟨q', hq', hk' _ hk⟩
    · exact ⟨_, hat, mem_ins.2 (.inl rfl)⟩
    · obtain ⟨q, hq, hk⟩ := I.par h h1
      obtain ⟨q', hq', hk', _⟩ := hup hq
      exact ⟨q', hq', hk' _ hk⟩
  · intro n e' k h hk
    rcases hs h with ⟨rfl, rfl⟩ | ⟨rfl, rfl⟩ | ⟨_, _, h⟩
    · rcases mem_ins.1 hk with rfl | hk
      · exact ⟨_, hnew, rfl⟩
      · obtain ⟨c, hc, hcp⟩ := I.kid hp hk
        obtain ⟨c', hc', _, hcp'⟩ := hup hc
        exact ⟨c', hc', hcp'.trans hcp⟩
    · cases hk
    · obtain ⟨c, hc, hcp⟩ := I.kid h hk
      obtain ⟨c', hc', _, hcp'⟩ := hup hc
      exact ⟨c', hc', hcp'.trans hcp⟩
  · intro n e' h
    rcases hs h with ⟨rfl, rfl⟩ | ⟨rfl, rfl⟩ | ⟨_, _, h⟩
    · refine ins_nodup (I.nd hp) fun hx => ?_
      obtain ⟨c, hc, _⟩ := I.kid hp hx
      rw [hnx] at hc
      cases hc
    · exact List.nodup_nil
    · exact I.nd h
  · rw [if_neg (by omega)]
    exact I.dep1
  · intro n e' h h1
    rcases hs h with ⟨rfl, rfl⟩ | ⟨rfl, rfl⟩ | ⟨_, h2, h⟩
    · obtain ⟨q, hq, _⟩ := I.par hp h1
      rw [if_neg hpn, if_neg (hsome hq)]
      have := I.dep hp h1
      exact this
    · rw [if_pos rfl, if_neg hpn]
    · obtain ⟨q, hq, _⟩ := I.par h h1
      rw [if_neg h2, if_neg (hsome hq)]
      exact I.dep h h1
  · intro n e' h
    rcases hs h with ⟨rfl, rfl⟩ | ⟨rfl, rfl⟩ | ⟨_, h2, h⟩
    · rw [if_neg hpn]; exact I.top hp
    · rw [if_pos rfl]; omega
    · rw [if_neg h2]; exact I.top h
  · intro n e' h
    rcases hs h with ⟨rfl, rfl⟩ | ⟨rfl, rfl⟩ | ⟨_, h2, h⟩
    · have := I.us hp; exact this
    · exact h0
    · exact I.us h
/-- A tree whose elements are as they were but for attributes. -/
theorem Inv.attrs (I : Inv uok m nx d) {n : Int} {e : El} (hn : m n = some e) {us : List (ByteArray × ByteArray)} (hu : uok us) : Inv uok (mset m n { e with us := us }) nx d := by
  generalize hm : mset m n { e with us := us } = m'
  have hdn : ∀ {k e'}, m' k = some e' → ∃ e0, m k = some e0 ∧ e'.id = e0.id ∧ e'.par = e0.par ∧ e'.ks = e0.ks ∧ (e'.us = us ∨ e'.us = e0.us) := by
    intro k e' h
    rw [← hm] at h
    rcases mset_some h with ⟨rfl, rfl⟩ | ⟨_, h⟩
    · exact ⟨e, hn, rfl, rfl, rfl, .inl rfl⟩
    · exact ⟨e', h, rfl, rfl, rfl, .inr rfl⟩
  have hup : ∀ {k e0}, m k = some e0 → ∃ e', m' k = some e' ∧ e'.par = e0.par ∧ e'.ks = e0.ks := by
    intro k e0 h
    by_cases hk : k = n
    · subst hk
      rw [hn] at h
      cases h
      exact ⟨{ e with us := us }, by rw [← hm]; exact mset_same _ _ _, rfl, rfl⟩
    · exact ⟨e0, by rw [← hm, mset_ne hk]; exact h, rfl, rfl⟩
  refine ⟨?_, ?_, ?_, ?_, ?_, ?_, I.dep1, ?_, ?_, ?_, I.nxb⟩
  · intro k e' h
    obtain ⟨e0, h0, h1, _⟩ := hdn h
    exact h1.trans (I.id h0)
  · intro k e' h
    obtain ⟨e0, h0, _⟩ := hdn h
    exact I.lo h0
  · obtain ⟨r, hr, h0⟩ := I.root
    obtain ⟨r', hr', h1, _⟩ := hup hr
    exact ⟨r', hr', h1.trans h0⟩
  · intro k e' h h1
    obtain ⟨e0, h0, _, hp, _⟩ := hdn h
    obtain ⟨p, hp', hk⟩ := I.par h0 h1
    obtain ⟨p', hp2, _, hks⟩ := hup hp'
    exact ⟨p', by rw [hp]; exact hp2, by rw [hks]; exact hk⟩
  · intro k e' x h hx
    obtain ⟨e0, h0, _, hp, hks, _⟩ := hdn h
    rw [hks] at hx
    obtain ⟨c, hc, hcp⟩ := I.kid h0 hx
    obtain ⟨c', hc', h2, _⟩ := hup hc
    exact ⟨c', hc', h2.trans hcp⟩
  · intro k e' h
    obtain ⟨e0, h0, _, _, hks, _⟩ := hdn h
    rw [hks]
    exact I.nd h0
  · intro k e' h h1
    obtain ⟨e0, h0, _, hp, _⟩ := hdn h
    rw [hp]
    exact I.dep h0 h1
  · intro k e' h
    obtain ⟨e0, h0, _⟩ := hdn h
    exact I.top h0
  · intro k e' h
    obtain ⟨e0, h0, _, _, _, h2⟩ := hdn h
    rcases h2 with h2 | h2
    · rw [h2]; exact hu
    · rw [h2]; exact I.us h0
/-- Behind Remove. -/
def cutM (m : M) (id : Int) (all : List Int) : M := fun k => if k ∈ all then none else (m k).map fun e => { e with ks := rmv e.ks id }
theorem cutM_some {id : Int} {all : List Int} {k : Int} {e' : El} (h : cutM m id all k = some e') : k ∉ all ∧ ∃ e, m k = some e ∧ e' = { e with ks := rmv e.ks id } := by
  unfold cutM at h
  split at h
  · cases h
  · rename_i hk
    cases e : m k with
    | none => rw [e] at h; cases h
    | some x => rw [e] at h; exact ⟨hk, x, rfl, (Option.some.inj h).symm⟩
theorem cutM_of {id : Int} {all : List Int} {k : Int} {e : El} (h : m k = some e) (hk : k ∉ all) : cutM m id all k = some { e with ks := rmv e.ks id } := by
  simp [cutM, hk, h]
theorem cutM_eq (I : Inv uok m nx d) {id : Int} {e0 P : El} (h0 : m id = some e0) (hP : m e0.par = some P) (all : List Int) : mcut (mset m e0.par { P with ks := rmv P.ks id }) all = cutM m id all := by
  funext k
  unfold mcut cutM
  split
  · rfl
  · by_cases hk : k = e0.par
    · subst hk
      rw [mset_same, hP]
      rfl
    · rw [mset_ne hk]
      cases e : m k with
      | none => rfl
      | some x =>
        have : id ∉ x.ks := fun hx => by
          obtain ⟨c, hc, hp⟩ := I.kid e hx
          rw [h0] at hc
          cases hc
          exact hk hp.symm
        simp [rmv_none this]
theorem Inv.remove (I : Inv uok m nx d) {id : Int} {e0 : El} (h0 : m id = some e0) (h1 : id ≠ 1) {h : Nat} (F : Full m id h) : Inv uok (cutM m id (levs m id h)) nx d := by
  have hr1 : (1 : Int) ∉ levs m id h := fun hm => by
    have hd := (F.deep I h0 hm).1
    have h2 := I.dep h0 h1
    obtain ⟨p, hp, _⟩ := I.par h0 h1
    have := I.pos hp
    have := I.dep1
    omega
  refine ⟨?_, ?_, ?_, ?_, ?_, ?_, I.dep1, ?_, ?_, ?_, I.nxb⟩
  · intro n e' hh
    obtain ⟨_, e, he, rfl⟩ := cutM_some hh
    have := I.id he
    exact this
  · intro n e' hh
    obtain ⟨_, e, he, rfl⟩ := cutM_some hh
    exact I.lo he
  · obtain ⟨r, hr, h0⟩ := I.root
    exact ⟨_, cutM_of hr hr1, h0⟩
  · intro n e' hh hn1
    obtain ⟨hna, e, he, rfl⟩ := cutM_some hh
    obtain ⟨p, hp, hk⟩ := I.par he hn1
    refine ⟨_, cutM_of hp fun hc => hna ((F.kid I h0 hp hk).2 (.inl hc)), mem_rmv.2 ⟨hk, ?_⟩⟩
    rintro rfl
    exact hna F.self
  · intro n e' k hh hk
    obtain ⟨hna, e, he, rfl⟩ := cutM_some hh
    obtain ⟨hk, hki⟩ := mem_rmv.1 hk
    obtain ⟨c, hc, hcp⟩ := I.kid he hk
    exact ⟨_, cutM_of hc fun hm => by
      rcases (F.kid I h0 he hk).1 hm with h | h
      · exact hna h
      · exact hki h, hcp⟩
  · intro n e' hh
    obtain ⟨_, e, he, rfl⟩ := cutM_some hh
    exact rmv_nodup (I.nd he)
  · intro n e' hh hn1
    obtain ⟨_, e, he, rfl⟩ := cutM_some hh
    have := I.dep he hn1
    exact this
  · intro n e' hh
    obtain ⟨_, e, he, rfl⟩ := cutM_some hh
    exact I.top he
  · intro n e' hh
    obtain ⟨_, e, he, rfl⟩ := cutM_some hh
    have := I.us he
    exact this
/-- Behind Move. -/
def mvE (id to : Int) (i : Nat) (k : Int) (e : El) : El := { e with par := if k = id then to else e.par, ks := if k = to then ins (rmv e.ks id) i id else rmv e.ks id }
def mvM (m : M) (id to : Int) (i : Nat) : M := fun k => (m k).map (mvE id to i k)
theorem mvM_some {id to : Int} {i : Nat} {k : Int} {e' : El} (h : mvM m id to i k = some e') : ∃ e, m k = some e ∧ e' = mvE id to i k e := by
  unfold mvM at h
  cases e : m k with
  | none => rw [e] at h; cases h
  | some x => rw [e] at h; exact ⟨x, rfl, (Option.some.inj h).symm⟩
theorem mvM_of {id to : Int} {i : Nat} {k : Int} {e : El} (h : m k = some e) : mvM m id to i k = some (mvE id to i k e) := by simp [mvM, h]
theorem mem_mvE {id to : Int} {i : Nat} {k x : Int} {e : El} : x ∈ (mvE id to i k e).ks ↔ (x ∈ e.ks ∧ x ≠ id) ∨ (k = to ∧ x = id) := by
  unfold mvE
  dsimp only
  split
  · rename_i hk
    rw [mem_ins, mem_rmv]
    constructor
    · rintro (h | h)
      · exact .inr ⟨hk, h⟩
      · exact .inl h
    · rintro (h | h)
      · exact .inr h
      · exact .inl h.2
  · rename_i hk
    rw [mem_rmv]
    exact ⟨.inl, fun h => h.resolve_right fun h => hk h.1⟩
theorem mvM_eq (I : Inv uok m nx d) {id to : Int} {e0 P Q : El} (h0 : m id = some e0) (hP : m e0.par = some P) (hpi : e0.par ≠ id) (hti : to ≠ id) (hQ : mset m e0.par { P with ks := rmv P.ks id } to = some Q) (i : Nat) :
    mset (mset (mset m e0.par { P with ks := rmv P.ks id }) to { Q with ks := ins Q.ks i id }) id { e0 with par := to } = mvM m id to i := by
  have hid : id ∉ e0.ks := fun hx => by
    obtain ⟨c, hc, hp⟩ := I.kid h0 hx
    rw [h0] at hc
    cases hc
    exact hpi hp
  funext k
  by_cases hk : k = id
  · subst hk
    rw [mset_same, mvM_of h0]
    simp [mvE, Ne.symm hti, rmv_none hid]
  · rw [mset_ne hk]
    by_cases hkt : k = to
    · subst hkt
      rw [mset_same]
      rcases mset_some hQ with ⟨rfl, rfl⟩ | ⟨hne, hQ⟩
      · rw [mvM_of hP]
        simp [mvE, hk]
      · have : id ∉ Q.ks := fun hx => by
          obtain ⟨c, hc, hp⟩ := I.kid hQ hx
          rw [h0] at hc
          cases hc
          exact hne hp.symm
        rw [mvM_of hQ]
        simp [mvE, hk, rmv_none this]
    · rw [mset_ne hkt]
      by_cases hkp : k = e0.par
      · subst hkp
        rw [mset_same, mvM_of hP]
        simp [mvE, hk, hkt]
      · rw [mset_ne hkp]
        cases e : m k with
        | none => simp [mvM, e]
        | some x =>
          have : id ∉ x.ks := fun hx => by
            obtain ⟨c, hc, hp⟩ := I.kid e hx
            rw [h0] at hc
            cases hc
            exact hkp hp.symm
          rw [mvM_of e]
          simp [mvE, hk, hkt, rmv_none this]
theorem Inv.move (I : Inv uok m nx d) {id to : Int} {e0 Q : El} (h0 : m id = some e0) (h1 : id ≠ 1) (hQ : m to = some Q) {h : Nat} (F : Full m id h) (hto : to ∉ levs m id h) (hd : d to + h ≤ 512) (i : Nat) :
    Inv uok (mvM m id to i) nx (fun k => if k ∈ levs m id h then d to + 1 + (d k - d id) else d k) := by
  have hti : to ≠ id := by rintro rfl; exact hto F.self
  have hr1 : (1 : Int) ∉ levs m id h := fun hm => by
    have hd := (F.deep I h0 hm).1
    have h2 := I.dep h0 h1
    obtain ⟨p, hp, _⟩ := I.par h0 h1
    have := I.pos hp
    have := I.dep1
    omega
  refine ⟨?_, ?_, ?_, ?_, ?_, ?_, ?_, ?_, ?_, ?_, I.nxb⟩
  · intro n e' hh
    obtain ⟨e, he, rfl⟩ := mvM_some hh
    have := I.id he
    exact this
  · intro n e' hh
    obtain ⟨e, he, rfl⟩ := mvM_some hh
    exact I.lo he
  · obtain ⟨r, hr, hp⟩ := I.root
    refine ⟨_, mvM_of hr, ?_⟩
    simp only [mvE]
    rw [if_neg (Ne.symm h1)]
    exact hp
  · intro n e' hh hn1
    obtain ⟨e, he, rfl⟩ := mvM_some hh
    by_cases hni : n = id
    · refine ⟨mvE id to i to Q, ?_, mem_mvE.2 (.inr ⟨rfl, hni⟩)⟩
      have : (mvE id to i n e).par = to := by simp only [mvE, if_pos hni]
      rw [this]
      exact mvM_of hQ
    · obtain ⟨p, hp, hk⟩ := I.par he hn1
      refine ⟨mvE id to i e.par p, ?_, mem_mvE.2 (.inl ⟨hk, hni⟩)⟩
      have : (mvE id to i n e).par = e.par := by simp only [mvE, if_neg hni]
      rw [this]
      exact mvM_of hp
  · intro n e' k hh hk
    obtain ⟨e, he, rfl⟩ := mvM_some hh
    rcases mem_mvE.1 hk with ⟨hk, hki⟩ | ⟨rfl, rfl⟩
    · obtain ⟨c, hc, hcp⟩ := I.kid he hk
      refine ⟨_, mvM_of hc, ?_⟩
      simp only [mvE, if_neg hki]
      exact hcp
    · refine ⟨_, mvM_of h0, ?_⟩
      simp only [mvE, if_true]
  · intro n e' hh
    obtain ⟨e, he, rfl⟩ := mvM_some hh
    simp only [mvE]
    split
    · exact ins_nodup (rmv_nodup (I.nd he)) fun hx => (mem_rmv.1 hx).2 rfl
    · exact rmv_nodup (I.nd he)
  · rw [if_neg hr1]
    exact I.dep1
  · intro n e' hh hn1
    obtain ⟨e, he, rfl⟩ := mvM_some hh
    by_cases hni : n = id
    · subst hni
      simp only [mvE, if_true]
      rw [if_pos F.self, if_neg hto]
      omega
    · simp only [mvE, if_neg hni]
      obtain ⟨p, hp, hk⟩ := I.par he hn1
      have hkk := F.kid I h0 hp hk
      have hdep := I.dep he hn1
      by_cases hm : e.par ∈ levs m id h
      · have := (F.deep I h0 hm).1
        rw [if_pos (hkk.2 (.inl hm)), if_pos hm]
        omega
      · rw [if_neg (fun hc => (hkk.1 hc).elim hm hni), if_neg hm]
        exact hdep
  · intro n e' hh
    obtain ⟨e, he, rfl⟩ := mvM_some hh
    split
    · rename_i hm
      have := F.deep I h0 hm
      omega
    · exact I.top he
  · intro n e' hh
    obtain ⟨e, he, rfl⟩ := mvM_some hh
    have := I.us he
    exact this
/-- As many as there are elements. -/
def Cnt (m : M) (k : Nat) : Prop := ∃ l : List Int, l.Nodup ∧ l.length = k ∧ ∀ n, n ∈ l ↔ m n ≠ none
theorem Cnt.uniq {j k : Nat} (h : Cnt m j) (h' : Cnt m k) : j = k := by
  obtain ⟨l, h1, rfl, h3⟩ := h
  obtain ⟨l', h1', rfl, h3'⟩ := h'
  exact ((List.perm_ext_iff_of_nodup h1 h1').2 fun a => (h3 a).trans (h3' a).symm).length_eq
theorem Cnt.zero : Cnt (fun _ => none) 0 := ⟨[], List.nodup_nil, rfl, fun n => by simp⟩
theorem Cnt.set {k : Nat} (h : Cnt m k) (n : Int) (e : El) : Cnt (mset m n e) (if m n = none then k + 1 else k) := by
  obtain ⟨l, h1, rfl, h3⟩ := h
  split
  · rename_i hn
    refine ⟨n :: l, List.nodup_cons.2 ⟨fun h => (h3 n).1 h hn, h1⟩, rfl, fun x => ?_⟩
    rw [List.mem_cons, h3]
    unfold mset
    split <;> simp [*]
  · rename_i hn
    refine ⟨l, h1, rfl, fun x => ?_⟩
    rw [h3]
    unfold mset
    split
    · rename_i hx
      subst hx
      simp [hn]
    · rfl
def mdrop (m : M) (n : Int) : M := fun k => if k = n then none else m k
theorem Cnt.drop {k : Nat} (h : Cnt m k) (n : Int) : Cnt (mdrop m n) (if m n = none then k else k - 1) := by
  obtain ⟨l, h1, rfl, h3⟩ := h
  split
  · rename_i hn
    refine ⟨l, h1, rfl, fun x => ?_⟩
    rw [h3]
    unfold mdrop
    split
    · rename_i hx
      subst hx
      simp [hn]
    · rfl
  · rename_i hn
    refine ⟨l.erase n, h1.erase n, List.length_erase_of_mem ((h3 n).2 hn), fun x => ?_⟩
    rw [h1.mem_erase_iff, h3]
    unfold mdrop
    split <;> simp [*]

end Go.Proofs.YtdiljkmlneeboaaGreat.N
