/- Elements and trees of them: plain mathematics, no memory. -/
namespace Go.Proofs.Ytecbgleidohjpab.N

/-- An element. -/
structure El where
  id : Int
  tag : ByteArray
  par : Int
  ks : List Int
  us : List (ByteArray × ByteArray)
/-- What is there for each number. -/
abbrev M := Int → Option El
def mset (m : M) (n : Int) (e : El) : M := fun k => if k = n then some e else m k
def mcut (m : M) (l : List Int) : M := fun k => if k ∈ l then none else m k
theorem mset_same (m : M) (n : Int) (e : El) : mset m n e n = some e := by simp [mset]
theorem mset_ne {m : M} {n k : Int} {e : El} (h : k ≠ n) : mset m n e k = m k := by simp [mset, h]
theorem mset_some {m : M} {n k : Int} {e e' : El} (h : mset m n e k = some e') : (k = n ∧ e' = e) ∨ (k ≠ n ∧ m k = some e') := by
  unfold mset at h
  split at h
  · rename_i hk
    exact .inl ⟨hk, (Option.some.inj h).symm⟩
  · rename_i hk
    exact .inr ⟨hk, h⟩
theorem mcut_some {m : M} {l : List Int} {k : Int} {e : El} : mcut m l k = some e ↔ k ∉ l ∧ m k = some e := by
  unfold mcut
  split <;> simp [*]
def kidsOf (m : M) (n : Int) : List Int := match m n with
  | none => []
  | some e => e.ks
theorem kidsOf_some {m : M} {n : Int} {e : El} (h : m n = some e) : kidsOf m n = e.ks := by simp [kidsOf, h]
theorem kidsOf_none {m : M} {n : Int} (h : m n = none) : kidsOf m n = [] := by simp [kidsOf, h]
theorem mem_kidsOf {m : M} {n k : Int} (h : k ∈ kidsOf m n) : ∃ e, m n = some e ∧ k ∈ e.ks := by
  cases e : m n with
  | none => rw [kidsOf_none e] at h; cases h
  | some x => rw [kidsOf_some e] at h; exact ⟨x, rfl, h⟩
/-- A tree: numbers below nx, each element's depth by d. -/
structure Inv (uok : List (ByteArray × ByteArray) → Prop) (m : M) (nx : Int) (d : Int → Nat) : Prop where
  id : ∀ {n e}, m n = some e → e.id = n
  lo : ∀ {n e}, m n = some e → 1 ≤ n ∧ n < nx
  root : ∃ e, m 1 = some e ∧ e.par = 0
  par : ∀ {n e}, m n = some e → n ≠ 1 → ∃ p, m e.par = some p ∧ n ∈ p.ks
  kid : ∀ {n e k}, m n = some e → k ∈ e.ks → ∃ c, m k = some c ∧ c.par = n
  nd : ∀ {n e}, m n = some e → e.ks.Nodup
  dep1 : d 1 = 1
  dep : ∀ {n e}, m n = some e → n ≠ 1 → d n = d e.par + 1
  top : ∀ {n e}, m n = some e → d n ≤ 512
  us : ∀ {n e}, m n = some e → uok e.us
  nxb : 2 ≤ nx ∧ nx ≤ 100000
variable {uok : List (ByteArray × ByteArray) → Prop} {m : M} {nx : Int} {d : Int → Nat}
theorem Inv.zero (I : Inv uok m nx d) : m 0 = none := by
  cases e : m 0 with
  | none => rfl
  | some x => have := I.lo e; omega
theorem Inv.out (I : Inv uok m nx d) {n : Int} (h : n < 1 ∨ nx ≤ n) : m n = none := by
  cases e : m n with
  | none => rfl
  | some x => have := I.lo e; omega
theorem Inv.pos (I : Inv uok m nx d) {n : Int} {e : El} (h : m n = some e) : 1 ≤ d n := by
  by_cases h1 : n = 1
  · rw [h1, I.dep1]; exact Nat.le_refl _
  · rw [I.dep h h1]; omega
theorem Inv.kidne (I : Inv uok m nx d) {n : Int} {e : El} {k : Int} (h : m n = some e) (hk : k ∈ e.ks) : k ≠ 1 := by
  intro h1
  obtain ⟨c, hc, hp⟩ := I.kid h hk
  obtain ⟨r, hr, h0⟩ := I.root
  rw [h1, hr] at hc
  cases hc
  have := I.lo h
  omega
theorem Inv.parRoot (I : Inv uok m nx d) {n : Int} {e : El} (h : m n = some e) : e.par = 0 ↔ n = 1 := by
  constructor
  · intro h0
    refine Classical.byContradiction fun h1 => ?_
    obtain ⟨p, hp, _⟩ := I.par h h1
    rw [h0, I.zero] at hp
    cases hp
  · intro h1
    subst h1
    obtain ⟨r, hr, h0⟩ := I.root
    rw [hr] at h
    cases h
    exact h0
theorem len_range {l : List Int} {a b : Int} (hn : l.Nodup) (h : ∀ x ∈ l, a ≤ x ∧ x < b) : (l.length : Int) ≤ max 0 (b - a) := by
  have := hn.length_le_of_subset (l₂ := (List.range (b - a).toNat).map fun (i : Nat) => a + (i : Int)) (fun x hx => by
    have := h x hx
    exact List.mem_map.2 ⟨(x - a).toNat, List.mem_range.2 (by omega), by omega⟩)
  rw [List.length_map, List.length_range] at this
  omega
theorem Inv.ksLen (I : Inv uok m nx d) {n : Int} {e : El} (h : m n = some e) : (e.ks.length : Int) + 1 < nx := by
  have := len_range (I.nd h) (a := 2) (b := nx) (fun x hx => by
    obtain ⟨c, hc, _⟩ := I.kid h hx
    have := I.lo hc
    have := I.kidne h hx
    omega)
  have := I.nxb
  omega

/-- An element, its parent, and so on. -/
def upL (m : M) : Nat → Int → List Int
  | 0, _ => []
  | f + 1, n => match m n with
    | none => []
    | some e => n :: upL m f e.par
theorem upL_none {f : Nat} {n : Int} (h : m n = none) : upL m f n = [] := by
  cases f with
  | zero => rfl
  | succ f => simp [upL, h]
theorem upL_some {f : Nat} {n : Int} {e : El} (h : m n = some e) : upL m (f + 1) n = n :: upL m f e.par := by simp [upL, h]
theorem upL_len (I : Inv uok m nx d) : ∀ (f : Nat) (n : Int) (e : El), m n = some e → d n ≤ f → (upL m f n).length = d n
  | 0, n, e, h, hf => by have := I.pos h; omega
  | f + 1, n, e, h, hf => by
    rw [upL_some h]
    by_cases h1 : n = 1
    · have h0 := (I.parRoot h).2 h1
      rw [h0, upL_none I.zero, h1, I.dep1]
      rfl
    · obtain ⟨p, hp, _⟩ := I.par h h1
      have := I.dep h h1
      rw [List.length_cons, upL_len I f _ p hp (by omega), this]
theorem upL_stable (I : Inv uok m nx d) : ∀ (f g : Nat) (n : Int), (∀ e, m n = some e → d n ≤ f ∧ d n ≤ g) → upL m f n = upL m g n
  | f, g, n, hh => by
    cases h : m n with
    | none => rw [upL_none h, upL_none h]
    | some e =>
      have hp := I.pos h
      have hfg := hh e h
      cases f with
      | zero => omega
      | succ f =>
        cases g with
        | zero => omega
        | succ g =>
          rw [upL_some h, upL_some h, upL_stable I f g e.par (fun p hp' => by
            by_cases h1 : n = 1
            · rw [(I.parRoot h).2 h1, I.zero] at hp'; cases hp'
            · have := I.dep h h1
              omega)]
def ups (m : M) (n : Int) : List Int := upL m 512 n
theorem ups_none {n : Int} (h : m n = none) : ups m n = [] := upL_none h
theorem ups_some (I : Inv uok m nx d) {n : Int} {e : El} (h : m n = some e) : ups m n = n :: ups m e.par := by
  unfold ups
  rw [show (512 : Nat) = 511 + 1 from rfl, upL_some h, upL_stable I 511 (511 + 1) e.par (fun p hp => by
    by_cases h1 : n = 1
    · rw [(I.parRoot h).2 h1, I.zero] at hp; cases hp
    · have := I.dep h h1
      have := I.top h
      omega)]
theorem ups_len (I : Inv uok m nx d) {n : Int} {e : El} (h : m n = some e) : (ups m n).length = d n := upL_len I _ _ e h (I.top h)
theorem ups_mem (I : Inv uok m nx d) {k : Int} : ∀ (f : Nat) (n : Int), k ∈ upL m f n → ∃ e, m k = some e
  | 0, n, h => by cases h
  | f + 1, n, h => by
    cases e : m n with
    | none => rw [upL_none e] at h; cases h
    | some x =>
      rw [upL_some e] at h
      rcases List.mem_cons.1 h with rfl | h
      · exact ⟨x, e⟩
      · exact ups_mem I f _ h
theorem ups_dep (I : Inv uok m nx d) {k : Int} : ∀ (f : Nat) (n : Int), k ∈ upL m f n → d k ≤ d n
  | 0, n, h => by cases h
  | f + 1, n, h => by
    cases e : m n with
    | none => rw [upL_none e] at h; cases h
    | some x =>
      rw [upL_some e] at h
      rcases List.mem_cons.1 h with rfl | h
      · exact Nat.le_refl _
      · have := ups_dep I f _ h
        by_cases h1 : n = 1
        · rw [(I.parRoot e).2 h1, upL_none I.zero] at h; cases h
        · have := I.dep e h1
          omega
theorem root_ups (I : Inv uok m nx d) : ∀ (f : Nat) (n : Int) (e : El), m n = some e → d n ≤ f → 1 ∈ upL m f n
  | 0, n, e, h, hf => by have := I.pos h; omega
  | f + 1, n, e, h, hf => by
    rw [upL_some h]
    by_cases h1 : n = 1
    · rw [h1]; exact List.mem_cons_self
    · obtain ⟨p, hp, _⟩ := I.par h h1
      have := I.dep h h1
      exact List.mem_cons_of_mem _ (root_ups I f _ p hp (by omega))

/-- Those k levels below an element. -/
def lev (m : M) (id : Int) : Nat → List Int
  | 0 => [id]
  | k + 1 => (lev m id k).flatMap (kidsOf m)
theorem lev_mem (I : Inv uok m nx d) {id : Int} {e0 : El} (h0 : m id = some e0) : ∀ (k : Nat) (n : Int), n ∈ lev m id k → (∃ e, m n = some e) ∧ d n = d id + k
  | 0, n, h => by
    rw [lev, List.mem_singleton] at h
    subst h
    exact ⟨⟨e0, h0⟩, rfl⟩
  | k + 1, n, h => by
    obtain ⟨q, hq, hn⟩ := List.mem_flatMap.1 h
    obtain ⟨e, he, hk⟩ := mem_kidsOf hn
    obtain ⟨c, hc, hp⟩ := I.kid he hk
    have h1 := I.kidne he hk
    refine ⟨⟨c, hc⟩, ?_⟩
    rw [I.dep hc h1, hp, (lev_mem I h0 k q hq).2]
    omega
theorem lev_nodup (I : Inv uok m nx d) {id : Int} {e0 : El} (h0 : m id = some e0) : ∀ k, (lev m id k).Nodup
  | 0 => by simp [lev]
  | k + 1 => by
    rw [lev]
    refine List.pairwise_flatMap.2 ⟨fun a ha => ?_, (lev_nodup I h0 k).imp fun {a b} hab x hx y hy hxy => ?_⟩
    · obtain ⟨⟨e, he⟩, _⟩ := lev_mem I h0 k a ha
      rw [kidsOf_some he]
      exact I.nd he
    · subst hxy
      obtain ⟨e, he, h1⟩ := mem_kidsOf hx
      obtain ⟨e', he', h2⟩ := mem_kidsOf hy
      obtain ⟨c, hc, hp⟩ := I.kid he h1
      obtain ⟨c', hc', hp'⟩ := I.kid he' h2
      rw [hc] at hc'
      cases hc'
      exact hab (hp.symm.trans hp')
theorem lev_end (I : Inv uok m nx d) {id : Int} {e0 : El} (h0 : m id = some e0) {k : Nat} (hk : 512 < d id + k) : lev m id k = [] := by
  rw [List.eq_nil_iff_forall_not_mem]
  intro n hn
  obtain ⟨⟨e, he⟩, h⟩ := lev_mem I h0 k n hn
  have := I.top he
  omega
theorem lev_nil {id : Int} {h : Nat} (hh : lev m id h = []) : ∀ j, lev m id (h + j) = []
  | 0 => hh
  | j + 1 => by rw [← Nat.add_assoc, lev, lev_nil hh j]; rfl
/-- The first h levels. -/
def levs (m : M) (id : Int) (h : Nat) : List Int := (List.range h).flatMap (lev m id)
theorem levs_succ (id : Int) (h : Nat) : levs m id (h + 1) = levs m id h ++ lev m id h := by
  simp [levs, List.range_succ]
theorem levs_mem {id : Int} {h : Nat} {n : Int} : n ∈ levs m id h ↔ ∃ k, k < h ∧ n ∈ lev m id k := by
  simp [levs, List.mem_flatMap]
theorem levs_nodup (I : Inv uok m nx d) {id : Int} {e0 : El} (h0 : m id = some e0) (h : Nat) : (levs m id h).Nodup := by
  refine List.pairwise_flatMap.2 ⟨fun a _ => lev_nodup I h0 a, (List.nodup_range (n := h)).imp fun {a b} hab x hx y hy hxy => ?_⟩
  subst hxy
  have h1 := (lev_mem I h0 a x hx).2
  have h2 := (lev_mem I h0 b x hy).2
  omega
theorem levs_len (I : Inv uok m nx d) {id : Int} {e0 : El} (h0 : m id = some e0) (h : Nat) : ((levs m id h).length : Int) < nx := by
  have := len_range (levs_nodup I h0 h) (a := 1) (b := nx) (fun x hx => by
    obtain ⟨k, _, hk⟩ := levs_mem.1 hx
    obtain ⟨⟨e, he⟩, _⟩ := lev_mem I h0 k x hk
    exact I.lo he)
  have := I.nxb
  omega
theorem up_lev (I : Inv uok m nx d) {id : Int} : ∀ (f : Nat) (n : Int) (e : El), m n = some e → id ∈ upL m f n → ∃ k, n ∈ lev m id k
  | 0, n, e, h, hm => by cases hm
  | f + 1, n, e, h, hm => by
    rw [upL_some h] at hm
    rcases List.mem_cons.1 hm with rfl | hm
    · exact ⟨0, by simp [lev]⟩
    · by_cases h1 : n = 1
      · rw [(I.parRoot h).2 h1, upL_none I.zero] at hm; cases hm
      · obtain ⟨p, hp, hk⟩ := I.par h h1
        obtain ⟨k, hl⟩ := up_lev I f _ p hp hm
        exact ⟨k + 1, List.mem_flatMap.2 ⟨_, hl, by rw [kidsOf_some hp]; exact hk⟩⟩
theorem lev_up (I : Inv uok m nx d) {id : Int} {e0 : El} (h0 : m id = some e0) : ∀ (k : Nat) (n : Int), n ∈ lev m id k → id ∈ ups m n
  | 0, n, h => by
    rw [lev, List.mem_singleton] at h
    subst h
    rw [ups_some I h0]
    exact List.mem_cons_self
  | k + 1, n, h => by
    obtain ⟨q, hq, hn⟩ := List.mem_flatMap.1 h
    obtain ⟨e, he, hk⟩ := mem_kidsOf hn
    obtain ⟨c, hc, hp⟩ := I.kid he hk
    rw [ups_some I hc, hp]
    exact List.mem_cons_of_mem _ (lev_up I h0 k q hq)
/-- All of an element: it and those below it. -/
structure Full (m : M) (id : Int) (h : Nat) : Prop where
  pos : 1 ≤ h
  fin : lev m id h = []
  on : ∀ k, k < h → lev m id k ≠ []
theorem Full.mem {id : Int} {h : Nat} (F : Full m id h) {k : Nat} {n : Int} (hn : n ∈ lev m id k) : n ∈ levs m id h := by
  refine levs_mem.2 ⟨k, Classical.byContradiction fun hk => ?_, hn⟩
  have := lev_nil F.fin (k - h)
  rw [show h + (k - h) = k by omega] at this
  rw [this] at hn
  cases hn
theorem Full.iff {id : Int} {h : Nat} (F : Full m id h) (I : Inv uok m nx d) {e0 : El} (h0 : m id = some e0) {n : Int} {e : El} (hn : m n = some e) : n ∈ levs m id h ↔ id ∈ ups m n := by
  constructor
  · intro hm
    obtain ⟨k, _, hk⟩ := levs_mem.1 hm
    exact lev_up I h0 k n hk
  · intro hm
    obtain ⟨k, hk⟩ := up_lev I 512 n e hn hm
    exact F.mem hk
theorem full_some {id : Int} {h : Nat} (I : Inv uok m nx d) {e0 : El} (h0 : m id = some e0) {n : Int} (hn : n ∈ levs m id h) : ∃ e, m n = some e := by
  obtain ⟨k, _, hk⟩ := levs_mem.1 hn
  exact (lev_mem I h0 k n hk).1
theorem Full.self {id : Int} {h : Nat} (F : Full m id h) : id ∈ levs m id h := levs_mem.2 ⟨0, F.pos, by simp [lev]⟩
/-- A kid of who is not there is there only if it is the element itself. -/
theorem Full.kid {id : Int} {h : Nat} (F : Full m id h) (I : Inv uok m nx d) {e0 : El} (h0 : m id = some e0) {n k : Int} {e : El} (hn : m n = some e) (hk : k ∈ e.ks) : k ∈ levs m id h ↔ n ∈ levs m id h ∨ k = id := by
  constructor
  · intro hm
    obtain ⟨j, _, hj⟩ := levs_mem.1 hm
    cases j with
    | zero => rw [lev, List.mem_singleton] at hj; exact .inr hj
    | succ j =>
      obtain ⟨q, hq, hkq⟩ := List.mem_flatMap.1 hj
      obtain ⟨e', he', hk'⟩ := mem_kidsOf hkq
      obtain ⟨c, hc, hp⟩ := I.kid hn hk
      obtain ⟨c', hc', hp'⟩ := I.kid he' hk'
      rw [hc] at hc'
      cases hc'
      rw [← hp, hp']
      exact .inl (F.mem hq)
  · rintro (hm | rfl)
    · obtain ⟨j, _, hj⟩ := levs_mem.1 hm
      exact F.mem (k := j + 1) (List.mem_flatMap.2 ⟨n, hj, by rw [kidsOf_some hn]; exact hk⟩)
    · exact F.self
/-- How deep what is below goes. -/
theorem Full.deep {id : Int} {h : Nat} (_F : Full m id h) (I : Inv uok m nx d) {e0 : El} (h0 : m id = some e0) {n : Int} (hn : n ∈ levs m id h) : d id ≤ d n ∧ d n + 1 ≤ d id + h := by
  obtain ⟨k, hk, hm⟩ := levs_mem.1 hn
  have := (lev_mem I h0 k n hm).2
  omega
theorem Full.last {id : Int} {h : Nat} (F : Full m id h) (I : Inv uok m nx d) {e0 : El} (h0 : m id = some e0) : ∃ n, n ∈ levs m id h ∧ d n + 1 = d id + h := by
  have hp := F.pos
  obtain ⟨n, hn⟩ := List.exists_mem_of_ne_nil _ (F.on (h - 1) (by omega))
  have := (lev_mem I h0 _ n hn).2
  exact ⟨n, F.mem hn, by omega⟩

end Go.Proofs.Ytecbgleidohjpab.N
