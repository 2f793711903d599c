/- Reclaim. -/
import Derived.Test.YtlnpiadjnjdfiaaERe
namespace Go.Proofs.Ytlnpiadjnjdfiaa.E
open Go.RowKit
open Go.MuLone
set_option maxRecDepth 100000

theorem Try.info3s : (Try.prog.info? 3).map (fun i => (i.zero, i.size, i.bytes)) = some (some (.int .i64 0), 1, 8) := by kernel_rfl
theorem field48 (x y : Int) (w : World) : (Instr.field 48 (.agg #[.int .i64 x, .int .i64 y]) 0).run Try.prog w = .ok (.int .i64 x) w := by kernel_rfl
/-- Does nobody see it any more? -/
def okR (p : Int × Bool) (r : It) : Prop := p.2 = false ∨ r.2 < p.1
def idV (r : It) : Value := .int .i64 r.1
/-- What Reclaim does in a round. -/
def RcGo (w : World) (X : EX) (v0 : Value) (L : List It) (p : Int × Bool) (m : Nat) (u : Value) (wr : World) : Prop := ∃ v K R, K.length ≤ m ∧ wr.ownsRow w.heap.size 3 1 u R.length (R.map idV) ∧ ES wr { X with m := 1 } v K ∧ HeapL bt K.length K ∧ (R ++ K).Perm L ∧ (∀ r ∈ R, okR p r) ∧ R.Pairwise (fun x y => bt y x = false) ∧ (∀ r ∈ R, ∀ k ∈ K, bt k r = false) ∧ Kv X.b v0 w v wr ∧ (∀ g, u.ownBlock = some g → v.ownBlock ≠ some g)
/-- What Reclaim tells, and what is left. -/
def RcEnd (w : World) (X : EX) (v0 : Value) (L : List It) (p : Int × Bool) (u : Value) (w' : World) : Prop := ∃ v K R, w'.ownsRow w.heap.size 3 1 u R.length (R.map idV) ∧ EO w' X v K ∧ (R ++ K).Perm L ∧ (∀ r ∈ R, okR p r) ∧ (∀ k ∈ K, ¬ okR p k) ∧ R.Pairwise (fun x y => bt y x = false) ∧ Kv X.b v0 w v w' ∧ (∀ g, u.ownBlock = some g → v.ownBlock ≠ some g)

theorem top_all {K : List It} (hh : HeapL bt K.length K) {t : It} (h0 : K[0]? = some t) : ∀ k ∈ K, bt k t = false := by
  intro k hk
  obtain ⟨c, hc, e⟩ := List.mem_iff_getElem.1 hk
  exact hh.top bt_ord (Nat.le_refl _) h0 c k hc (by rw [List.getElem?_eq_getElem hc, e])
theorem okR_not {p : Int × Bool} {t k : It} (ht : ¬ okR p t) (h : bt k t = false) : ¬ okR p k := by
  intro hk
  rw [bt_no] at h
  rcases hk with hk | hk
  · exact ht (.inl hk)
  · have : ¬ t.2 < p.1 := fun hh => ht (.inr hh)
    omega
theorem RcGo.start {w w1 : World} {X : EX} {v : Value} {L : List It} (p : Int × Bool) (h : ES w1 { X with m := 1 } v L) (hh : HeapL bt L.length L) (hk : Kv X.b v w v w1) : RcGo w X v L p L.length (.slice none 0 0) w1 :=
  ⟨v, L, [], Nat.le_refl _, own_nil _ _ _ _, h, hh, List.Perm.refl _, by simp, List.Pairwise.nil, by simp, hk, fun g e => by cases e⟩
theorem RcEnd.mk' {w wr w' : World} {X : EX} {v0 v : Value} {L K R : List It} {p : Int × Bool} {u : Value} (hm : X.m = 0) (h1 : 1 ≤ X.n) (h8 : X.n ≤ 8) (hXl : X.b < w.heap.size) (hu : wr.ownsRow w.heap.size 3 1 u R.length (R.map idV)) (he : ES wr { X with m := 1 } v K) (hh : HeapL bt K.length K) (hp : (R ++ K).Perm L) (ho : ∀ r ∈ R, okR p r) (hs : R.Pairwise (fun x y => bt y x = false)) (hk : Kv X.b v0 w v wr) (hn : ∀ g, u.ownBlock = some g → v.ownBlock ≠ some g)
    (hend : ∀ k ∈ K, ¬ okR p k) (hw : w' = wr.setCell ⟨X.b, 10, none⟩ (.int .i32 0)) : RcEnd w X v0 L p u w' := by
  obtain ⟨he2, hk2⟩ := he.freed hm hw
  refine ⟨v, K, R, ?_, ⟨he2, hm, h1, h8, hh⟩, hp, ho, hend, hs, hk.trans hk2, hn⟩
  refine ownsRow_keep hu (fun g _ e => ?_)
  rw [hw]
  exact Below.heap_setCell _ ⟨X.b, 10, none⟩ _ g (fun e2 => by have := (hu.lt g e).1; simp only [] at e2; omega)

theorem Kv.grownN {b : Nat} {v v' : Value} {a w w' : World} (h : Kv b v a v' w) {o : Option Nat} (hg : w.grownBy w' o) (ho : ∀ g, o = some g → a.heap.size ≤ g) : Kv b v a v' w' :=
  ⟨hg.os.trans h.os, hg.tape.trans h.tape, hg.output.trans h.output, Nat.le_trans h.size hg.size, fun k hk h1 h2 => (hg.block k (Nat.lt_of_lt_of_le hk h.size) (fun e => by have := ho k e.symm; omega)).trans (h.block k hk h1 h2), h.own⟩
theorem RcGo.next {w wr w3 w4 : World} {X : EX} {v0 v v3 u u6 : Value} {L K K3 R : List It} {p : Int × Bool} {t : It} {z : Obj} (hXl : X.b < w.heap.size)
    (hu : wr.ownsRow w.heap.size 3 1 u R.length (R.map idV)) (hkv : Kv X.b v0 w v wr) (hne : ∀ g, u.ownBlock = some g → v.ownBlock ≠ some g) (hok : ∀ r ∈ R, okR p r) (hso : R.Pairwise (fun x y => bt y x = false)) (hbt : ∀ r ∈ R, ∀ k ∈ K, bt k r = false) (hp : (R ++ K).Perm L)
    (hokt : okR p t) (htop : ∀ k ∈ K, bt k t = false) (htm : t ∈ K) (hE3 : ES w3 { X with m := 1 } v3 K3) (hH3 : HeapL bt K3.length K3) (hp3 : (t :: K3).Perm K) (hk3 : Kv X.b v wr v3 w3)
    (hu6 : w4.ownsRow w.heap.size 3 1 u6 (R.length + 1) (R.map idV ++ [idV t])) (hg : (w3.alloc z).grownBy w4 u.ownBlock) (hat : u6.ownBlock = u.ownBlock ∨ u6.ownBlock = some (w3.alloc z).heap.size) : RcGo w X v0 L p K3.length u6 w4 := by
  have hne3 : ∀ g, u.ownBlock = some g → v3.ownBlock ≠ some g := fun g hg2 e => by
    rcases hk3.own g e with e | e
    · exact hne g hg2 e
    · have := (hu.lt g hg2).2; omega
  have hb3 : Below w3.heap.size w3 (w3.alloc z) := (Below.refl _ _).alloc (Nat.le_refl _) _
  have hE4 := hE3.keep hb3
  refine ⟨v3, K3, R ++ [t], Nat.le_refl _, ?_, ⟨hE4.bx.keep (hg.block _ hE4.bx.lt (fun e => ?_)), ownsRow_keep hE4.row (fun g hgl e => hg.block g hgl (fun e2 => hne3 g e2.symm e)), hE4.ne⟩, hH3, ?_, ?_, ?_, ?_, ?_, ?_⟩
  · rw [List.length_append, List.map_append]
    exact hu6
  · have := (hu.lt _ e.symm).1
    simp only [] at this
    omega
  · rw [List.append_assoc]
    exact (List.Perm.append_left R hp3).trans hp
  · intro r hr
    rcases List.mem_append.1 hr with hr | hr
    · exact hok r hr
    · obtain rfl : r = t := by simpa using hr
      exact hokt
  · rw [List.pairwise_append]
    refine ⟨hso, List.pairwise_singleton _ _, fun a ha b hb => ?_⟩
    obtain rfl : b = t := by simpa using hb
    exact hbt a ha b htm
  · intro r hr k hk
    have hkK : k ∈ K := hp3.subset (List.mem_cons_of_mem _ hk)
    rcases List.mem_append.1 hr with hr | hr
    · exact hbt r hr k hkK
    · obtain rfl : r = t := by simpa using hr
      exact htop k hkK
  · exact ((hkv.trans hk3).trans (Kv.of_below hb3)).grownN hg (fun g e => (hu.lt g e).1)
  · intro g e e3
    rcases hat with h | h
    · exact hne3 g (by rw [← h]; exact e) e3
    · rw [e] at h
      have h : g = (w3.alloc z).heap.size := Option.some.inj h
      have := hE3.lt e3
      rw [World.size_alloc] at h
      omega

set_option maxHeartbeats 4000000 in
theorem reclaim_any {w : World} {X : EX} {v : Value} {L : List It} (h : EO w X v L) (hL : L.length ≤ 100000) : Calls Try.prog 20 #[.pointer (some ⟨X.b, 0, none⟩)] w fun e w' => ∃ u, e = .returned u ∧ RcEnd w X v L (leastZ (X.S.take X.n)) u w' := by
  obtain ⟨i0, hi0, hz0, hz1, hz2⟩ := info_parts Try.info3s
  have hbx : Bx w X.b X.n X.now X.S 0 v := by have := h.es.bx; rw [h.m] at this; exact this
  have hm := hid_mk (made_any h.es.bx.pins h.n1)
  have hl := hid_mk (lock_it hbx)
  have H := hid_mk h
  clear h hbx
  go_enter_defers Try.func20, Try.ntmps20
  go_wp2_with (go_at_call 29; refine hm.out.mono ?_; rintro e w' ⟨rfl, hw⟩; rw [hw]; clear hw w')
  refine hl.out.mono ?_
  rintro e w1 ⟨⟨v1, rfl⟩, _, _, hw1⟩
  obtain ⟨hE, hK⟩ := H.out.es.locked hw1
  have hle := hid_mk (least_any hE.bx H.out.n8)
  have HS : Hid (∀ p, RcGo w X v L p L.length (.slice none 0 0) w1) := fun p => RcGo.start p hE H.out.hp hK
  clear hw1 hE hK hm hl
  go_wp2_with (go_at_call 39; fail)
  refine hle.out.mono ?_
  rintro e w2 ⟨rfl, hw2⟩
  rw [hw2]
  clear hw2 w2 hle
  dsimp only
  obtain ⟨p, hp0⟩ : ∃ p, p = leastZ (X.S.take X.n) := ⟨_, rfl⟩
  have HPE := hid_mk hp0
  rw [← hp0]
  clear hp0
  have HS := hid_mk (HS.out p)
  obtain ⟨l, hd⟩ := p
  dsimp only at *
  go_wp2
  go_loopg [5] L.length (fun m u wr => RcGo w X v L (l, hd) m u wr)
  case atStart => exact HS.out
  case round =>
    clear HS
    obtain ⟨v2, K, R, hKm, hu, hE, hH, hp, hok, hso, hbt, hkv, hne⟩ := hrel
    have HU := hid_mk hu
    have HE := hid_mk hE
    have HH := hid_mk hH
    have HP := hid_mk hp
    have HOK := hid_mk hok
    have HSO := hid_mk hso
    have HBT := hid_mk hbt
    have HKV := hid_mk hkv
    have HNE := hid_mk hne
    have hwt := hE.bx.waits
    have hKl : K.length ≤ 100000 := by have := hp.length_eq; rw [List.length_append] at this; omega
    clear hu hH hp hok hso hbt hkv hne
    dsimp only at hwt
    by_cases h0 : K.length = 0
    · obtain rfl : K = [] := List.length_eq_zero_iff.1 h0
      obtain ⟨va, vc, rfl⟩ := own_slice hE.row
      have HEND : Hid (∀ k ∈ ([] : List It), ¬ okR (l, hd) k) := by show ∀ k ∈ _, _; simp
      have hE2 := hid_mk hE
      clear hE
      go_wp2
      have hE := hE2.out
      refine leaves_cons (f := 31) (args := #[.pointer (some ⟨X.b, 10, none⟩)]) (by simp) (by simp [go_sem]) ?_
      refine (free_it hE.bx).mono ?_
      rintro e u' w3 ⟨rfl, rfl, _, _, hw3⟩
      exact ⟨_, results_tmp rfl _ _ _, _, rfl, by rw [← HPE.out]; exact RcEnd.mk' H.out.m H.out.n1 H.out.n8 H.out.es.bx.lt HU.out HE.out HH.out HP.out HOK.out HSO.out HKV.out HNE.out HEND.out hw3⟩
    · obtain ⟨g, cap, rfl, hP⟩ := hE.at (by omega)
      have hK0 : 0 < K.length := by omega
      obtain ⟨t, ht⟩ : ∃ t, t = K[0] := ⟨_, rfl⟩
      obtain ⟨c0, c1⟩ := hP.row.at hK0
      have HTA := hid_mk (take_any hP HH.out (by omega) hK0)
      have HTOP : Hid (∀ k ∈ K, bt k t = false) := top_all HH.out (by rw [ht]; exact List.getElem?_eq_getElem hK0)
      have HTM : Hid (t ∈ K) := by rw [Hid, ht]; exact List.getElem_mem hK0
      rw [← ht] at c0 c1 HTA
      have HEND0 : Hid (¬ okR (l, hd) t → ∀ k ∈ K, ¬ okR (l, hd) k) := fun hh k hk => okR_not hh (HTOP.out k hk)
      obtain ⟨t1, t2⟩ := t
      simp only [Nat.zero_mul, Nat.zero_add] at c0 c1
      have hcap := hP.row.cap_le
      unfold maxLen at hcap
      have hE2 := hid_mk hE
      clear ht hP hE
      have hcap0 : 0 < cap := by omega
      cases hd
      · have HOKT : Hid (okR (l, false) (t1, t2)) := .inl rfl
        have HTK : Hid (Calls Try.prog 40 #[.pointer (some ⟨X.b, 12, none⟩)] wr fun e w' => e = .returned (.agg #[.int .i64 t1, .int .i64 t2]) ∧ ∃ v' K', HeapL bt K'.length K' ∧ ES w' { X with m := 1 } v' K' ∧ ((t1, t2) :: K').Perm K ∧ Kv X.b (.slice (some ⟨g, 0, none⟩) K.length cap) wr v' w') := HTA
        clear HEND0
        go_wp2_with (go_at_call 40; fail)
        refine HTK.out.mono ?_
        rintro e w3 ⟨rfl, v3, K3, hH3, hE3, hp3, hk3⟩
        have hu3 : w3.ownsRow w.heap.size 3 1 u5 R.length (R.map idV) := ownsRow_keep HU.out (fun g hg e => hk3.block g hg (by have := (HU.out.lt g e).1; have := H.out.es.bx.lt; omega) (HNE.out g e))
        have hsz : w.heap.size ≤ w3.heap.size := Nat.le_trans HKV.out.size hk3.size
        have HSZ := hid_mk hsz
        have HE3 := hid_mk hE3
        have HH3 := hid_mk hH3
        have HP3 := hid_mk hp3
        have HK3 := hid_mk hk3
        have HU3 := hid_mk hu3
        have hRl : R.length ≤ 100000 := by have := HP.out.length_eq; rw [List.length_append] at this; omega
        clear hE3 hH3 hp3 hk3 hu3 hsz HTK
        have hfd := field48 t1 t2
        go_wp2_with (at_builtin; refine wpList_append_own_at _ rfl _ _ 40 rfl w.heap.size 3 i0 (.int .i64 0) 1 8 Try.underlying40 hi0 hz0 hz1 hz2 rfl (by decide) _ _ _ rfl (HU3.out.alloc _) ⟨w3.heap.size, 0, none⟩ 1 1 [.int .i64 t1] rfl rfl (World.news_of_block (cs := #[.int .i64 t1]) (t := 3) (fr := (0, 0)) (heap_alloc_last w3 _)) (by simp [Value.oneCell']) (by unfold maxLen; omega) (by omega) (by have := HSZ.out; simp; omega) ?_; intro u6 w4 hu6 hg6 _ hat6; have HU6 := hid_mk hu6; have HG6 : Hid ((w3.alloc (.cells #[.int .i64 t1] 3)).grownBy w4 u5.ownBlock) := hg6; have HAT6 : Hid (u6.ownBlock = u5.ownBlock ∨ u6.ownBlock = some (w3.alloc (.cells #[.int .i64 t1] 3)).heap.size) := hat6; clear hu6 hg6 hat6)
        go_roundg K3.length
        case measure => have := HP3.out.length_eq; rw [List.length_cons] at this; omega
        case rel => exact RcGo.next H.out.es.bx.lt HU.out HKV.out HNE.out HOK.out HSO.out HBT.out HP.out HOKT.out HTOP.out HTM.out HE3.out HH3.out HP3.out HK3.out HU6.out HG6.out HAT6.out
      · by_cases hlt : t2 < l
        · have HOKT : Hid (okR (l, true) (t1, t2)) := .inr hlt
          have HTK : Hid (Calls Try.prog 40 #[.pointer (some ⟨X.b, 12, none⟩)] wr fun e w' => e = .returned (.agg #[.int .i64 t1, .int .i64 t2]) ∧ ∃ v' K', HeapL bt K'.length K' ∧ ES w' { X with m := 1 } v' K' ∧ ((t1, t2) :: K').Perm K ∧ Kv X.b (.slice (some ⟨g, 0, none⟩) K.length cap) wr v' w') := HTA
          clear HEND0
          go_wp2_with (go_at_call 40; fail)
          refine HTK.out.mono ?_
          rintro e w3 ⟨rfl, v3, K3, hH3, hE3, hp3, hk3⟩
          have hu3 : w3.ownsRow w.heap.size 3 1 u5 R.length (R.map idV) := ownsRow_keep HU.out (fun g hg e => hk3.block g hg (by have := (HU.out.lt g e).1; have := H.out.es.bx.lt; omega) (HNE.out g e))
          have hsz : w.heap.size ≤ w3.heap.size := Nat.le_trans HKV.out.size hk3.size
          have HSZ := hid_mk hsz
          have HE3 := hid_mk hE3
          have HH3 := hid_mk hH3
          have HP3 := hid_mk hp3
          have HK3 := hid_mk hk3
          have HU3 := hid_mk hu3
          have hRl : R.length ≤ 100000 := by have := HP.out.length_eq; rw [List.length_append] at this; omega
          clear hE3 hH3 hp3 hk3 hu3 hsz HTK
          have hfd := field48 t1 t2
          go_wp2_with (at_builtin; refine wpList_append_own_at _ rfl _ _ 40 rfl w.heap.size 3 i0 (.int .i64 0) 1 8 Try.underlying40 hi0 hz0 hz1 hz2 rfl (by decide) _ _ _ rfl (HU3.out.alloc _) ⟨w3.heap.size, 0, none⟩ 1 1 [.int .i64 t1] rfl rfl (World.news_of_block (cs := #[.int .i64 t1]) (t := 3) (fr := (0, 0)) (heap_alloc_last w3 _)) (by simp [Value.oneCell']) (by unfold maxLen; omega) (by omega) (by have := HSZ.out; simp; omega) ?_; intro u6 w4 hu6 hg6 _ hat6; have HU6 := hid_mk hu6; have HG6 : Hid ((w3.alloc (.cells #[.int .i64 t1] 3)).grownBy w4 u5.ownBlock) := hg6; have HAT6 : Hid (u6.ownBlock = u5.ownBlock ∨ u6.ownBlock = some (w3.alloc (.cells #[.int .i64 t1] 3)).heap.size) := hat6; clear hu6 hg6 hat6)
          go_roundg K3.length
          case measure => have := HP3.out.length_eq; rw [List.length_cons] at this; omega
          case rel => exact RcGo.next H.out.es.bx.lt HU.out HKV.out HNE.out HOK.out HSO.out HBT.out HP.out HOKT.out HTOP.out HTM.out HE3.out HH3.out HP3.out HK3.out HU6.out HG6.out HAT6.out
        · have HEND : Hid (∀ k ∈ K, ¬ okR (l, true) k) := HEND0.out (by rintro (h | h); cases h; exact hlt h)
          clear HEND0 HTA
          go_wp2
          have hE := hE2.out
          refine leaves_cons (f := 31) (args := #[.pointer (some ⟨X.b, 10, none⟩)]) (by simp) (by simp [go_sem]) ?_
          refine (free_it hE.bx).mono ?_
          rintro e u' w3 ⟨rfl, rfl, _, _, hw3⟩
          exact ⟨_, results_tmp rfl _ _ _, _, rfl, by rw [← HPE.out]; exact RcEnd.mk' H.out.m H.out.n1 H.out.n8 H.out.es.bx.lt HU.out HE.out HH.out HP.out HOK.out HSO.out HKV.out HNE.out HEND.out hw3⟩
end Go.Proofs.Ytlnpiadjnjdfiaa.E
