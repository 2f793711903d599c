/- cascade.Winners. -/
import Derived.Test.YtmpppijgjbfolaaCNa
import Derived.Test.YtmpppijgjbfolaaCRn
import Derived.Test.YtmpppijgjbfolaaCIt
import Derived.Maps.OwnIn
namespace Go.Proofs.Ytmpppijgjbfolaa.C
open Go.RowKit Go.Shelf Go.Maps
set_option maxRecDepth 100000
attribute [local go_sem] Oper.semAt_some

theorem key9 : Keyed Try.prog 9 := string_keyed Try.underlying9
theorem hky {n : ByteArray} (h : n.size ≤ maxLen) : keyOf Try.prog 9 (.string n) = some (.string n.data.toList) := WideMaps.keyOf_string_mk Try.underlying9 h
theorem zero26 (w : World) : (zeroValue 26).run Try.prog w = .ok zE.val w := by kernel_rfl

/-- The map of winners, in block M, its variable behind it. -/
def MpI (n0 M : Nat) (w : World) (pre : List E8) (A : World) : Prop := A.heap[M + 1]? = some (.cells #[.map (some M)] 60 (0, 0)) ∧ A.ownsMap Try.prog 9 R8 M pre.length (mOf pre) ∧ M + 2 ≤ A.heap.size ∧ Below n0 w A
theorem owns_same {A A' : World} {M n : Nat} {D : DataW E8} (h : A.ownsMap Try.prog 9 R8 M n D) (hk : A'.heap[M]? = A.heap[M]?) : A'.ownsMap Try.prog 9 R8 M n D := by
  obtain ⟨es, clock, hb, F, hs, hD⟩ := h
  exact ⟨es, clock, hk.trans hb, F, hs, hD⟩
theorem MpI.it {n0 M B g : Nat} {w : World} {pre : List E8} {A A' : World} (h : MpI n0 M w pre A) (k : ItP B g A A') (hB : n0 ≤ B ∧ B < M) (hg : n0 ≤ g ∧ g < M) : MpI n0 M w pre A' := by
  obtain ⟨h1, h2, h3, h4⟩ := h
  refine ⟨(k.1.block (M + 1) (by omega) (by omega) (by omega)).trans h1, owns_same h2 (k.1.block M (by omega) (by omega) (by omega)), Nat.le_trans h3 k.1.size, h4.trans (k.1.below hB.1 hg.1 (by omega))⟩
theorem MpI.putO {n0 M l : Nat} {w : World} {pre : List E8} {A : World} (h : MpI n0 M w pre A) (hl : M + 2 ≤ l) (hn : n0 ≤ M) (o' : Obj) : MpI n0 M w pre (A.putObj l o') := by
  obtain ⟨h1, h2, h3, h4⟩ := h
  exact ⟨(World.putObj_heap_other (by omega)).trans h1, owns_same h2 (World.putObj_heap_other (by omega)), by simpa [World.putObj] using h3, h4.trans ⟨rfl, rfl, rfl, by simp [World.putObj], fun j hj => World.putObj_heap_other (by omega)⟩⟩
/-- A round that found the name. -/
theorem mp_found {n0 M B g t : Nat} {w A : World} {pre : List E8} {x : E8} {tmp : Obj} (h : MpI n0 M w pre A) (hB : n0 ≤ B ∧ B < M) (hg : n0 ≤ g ∧ g < M) (hh : Maps.has (mOf pre) (.string (ky x)) = true) :
    KeepsUp t A (A.alloc tmp) ∧ KpP B g A (A.alloc tmp) ∧ MpI n0 M w (pre ++ [x]) (A.alloc tmp) := by
  obtain ⟨h1, h2, h3, h4⟩ := h
  refine ⟨⟨by simp, fun k o _ hk _ => (Below.heap_alloc A tmp k (Array.getElem?_eq_some_iff.1 hk).1).trans hk⟩, ⟨by simp, Below.heap_alloc A tmp B (by omega), Below.heap_alloc A tmp g (by omega)⟩, (Below.heap_alloc A tmp _ (by omega)).trans h1, ?_, by simp; omega, h4.trans ((Below.refl _ _).alloc (by omega) _)⟩
  rw [mOf_snoc, mStep, if_pos hh]
  exact (h2.alloc tmp).mono (by simp)
theorem mp_new {n0 M B g t : Nat} {w A w5 : World} {pre : List E8} {x : E8} {tmp : Obj} (h : MpI n0 M w pre A) (hn : n0 ≤ M) (ht : M + 2 ≤ t) (hB : n0 ≤ B ∧ B < M) (hg : n0 ≤ g ∧ g < M) (hh : Maps.has (mOf pre) (.string (ky x)) = false)
    (ho : w5.ownsMap Try.prog 9 R8 M (pre.length + 1) ((mOf pre).put (.string (ky x)) (.held x))) (hgr : (A.alloc tmp).grownBy w5 (some M)) :
    KeepsUp t A w5 ∧ KpP B g A w5 ∧ MpI n0 M w (pre ++ [x]) w5 := by
  obtain ⟨h1, h2, h3, h4⟩ := h
  have hsz : A.heap.size ≤ w5.heap.size := by
    have := hgr.size
    simp at this
    omega
  have hblk : ∀ k, k < A.heap.size → k ≠ M → w5.heap[k]? = A.heap[k]? := fun k hk hkM => by
    rw [hgr.block k (by simp; omega) (fun e => hkM (Option.some.inj e)), Below.heap_alloc A tmp k hk]
  refine ⟨⟨hsz, fun k o hk hko _ => (hblk k (Array.getElem?_eq_some_iff.1 hko).1 (by omega)).trans hko⟩, ⟨hsz, hblk B (by omega) (by omega), hblk g (by omega) (by omega)⟩, (hblk (M + 1) (by omega) (by omega)).trans h1, ?_, by omega, h4.trans ⟨hgr.os, hgr.tape, hgr.output, hsz, fun k hk => hblk k (by omega) (by omega)⟩⟩
  rw [mOf_snoc, mStep, if_neg (by rw [hh]; simp), List.length_append]
  exact ho

/-- What is told of the winners. -/
def WsGo (w6 : World) (l : List E8) (v : Value) (i : Nat) (wr : World) : Prop := EO wr w6.heap.size v (((namesO l).take i).map (winK l)) ∧ Below w6.heap.size w6 wr
theorem ws_end {w A : World} {l : List E8} {D S : Nat} {v : Value} {ts : Array Value} (hE : EO A S v l) (hB : Below w.heap.size w A) (hK : A.heap[D]? = some (.deferred (some []))) (hD : w.heap.size ≤ D ∧ D < S) (h2 : ts[2]?.getD undef = v) :
    bodyPostM Fence.wide 9 Try.prog Try.f20 (fun e w' => ∃ v, e = .returned v ∧ EO w' w.heap.size v l ∧ Below w.heap.size w w') .ret { tmps := ts, defers := [{ target := .collected D, args := #[] }] } A := by
  refine ⟨by simp, .inl ⟨_, _, rfl, run_takeDeferred hK, ?_⟩⟩
  have hE2 : EO (A.putObj D (.deferred none)) w.heap.size v l := own_mono (ownsRow_keep hE fun k hk e => World.putObj_heap_other (by have := (hE.lt k e).1; omega)) (by omega)
  have hB2 : Below w.heap.size w (A.putObj D (.deferred none)) := hB.trans ⟨rfl, rfl, rfl, by simp [World.putObj], fun j hj => World.putObj_heap_other (by omega)⟩
  generalize A.putObj D (.deferred none) = Y at *
  refine ⟨v, ?_, v, rfl, hE2, hB2⟩
  simp [results, Try.results20, go_sem, h2]
theorem keys_len (D : DataW E8) (h : IsMap D) : (strKeys D).length = Maps.size D := by
  obtain ⟨es, rfl⟩ := h
  simp [strKeys, Maps.size]

set_option maxHeartbeats 8000000 in
theorem winners_any {w : World} {a : Option Addr} {c : Nat} {l : List E8} (h : EsAt w a c l) (hL : l.length ≤ 900000) (hs : ∀ e ∈ l, e.n.size ≤ maxLen) : Calls Try.prog 20 #[.slice a l.length c] w fun e w' => ∃ v, e = .returned v ∧ EO w' w.heap.size v ((namesO l).map (winK l)) ∧ Below w.heap.size w w' := by
  obtain ⟨i0, hi0, hz0, hz1, hz2⟩ := info_parts Try.info26s
  obtain ⟨w1, hw1⟩ : ∃ w1, w1 = w.alloc (.cells #[.slice none 0 0] 51) := ⟨_, rfl⟩
  have hb1 : Below w.heap.size w w1 := by rw [hw1]; exact (Below.refl _ _).alloc (Nat.le_refl _) _
  have hx1 : w1.heap[w.heap.size]? = some (.cells #[.slice none 0 0] 51 (0, 0)) := by rw [hw1]; exact heap_alloc_last w _
  have hF0 : FdGo w.heap.size w.heap.size w1 [] w1 := ⟨Below.refl _ _, [], .inl ⟨rfl, hx1, Nat.le_refl _⟩, fun c x y _ h0 => by simp at h0, List.Perm.refl _⟩
  have hfd := feed_any bt_ord hF0 (fun w' hw' => h.keep (hb1.trans hw')) hL hb1.size
  have HB1 := hid_mk hb1
  have HW1 := hid_mk hw1
  have HS := hid_mk hs
  clear h hw1 hb1 hx1 hF0 hs
  refine (callsIn_wide (n := 9)).1 ?_
  refine callsIn_of_wp_marks Try.func20 rfl trivial ?_ rfl
  refine wpIn_wide.2 ?_
  simp only [Try.ntmps20, List.size_toArray, List.length_cons, List.length_nil, Nat.reduceAdd, Nat.reduceSub, Array.replicate_succ, Array.replicate_zero, List.push_toArray, List.append_toArray, List.nil_append, List.cons_append]
  go_wp2_with (go_at_call 26; fail)
  rw [← HW1.out]
  refine hfd.mono ?_
  rintro e w2 ⟨⟨v2, rfl⟩, hB2, K, hP, hH, hp⟩
  obtain ⟨g, hPE, hg1, hg2, hB3, hB4⟩ := hP.pe
  have hKl : K.length ≤ 900000 := by rw [hp.length_eq, tagF_len]; exact hL
  have HQ : Hid (∀ r ∈ K, r.1.n.size ≤ maxLen) := fun r hr => by
    refine HS.out r.1 ?_
    have h1 := hp.mem_iff.1 hr
    have h2 : r.1 ∈ (tagF l 0).map (·.1) := List.mem_map.2 ⟨r, h1, rfl⟩
    rwa [tagF_fst] at h2
  have HB2 : Hid (Below w.heap.size w w2) := HB1.out.trans hB2
  have HP := hid_mk hp
  have HPE := hid_mk hPE
  have HH := hid_mk hH
  clear hfd hPE hH hP hB2 hp
  obtain ⟨w3, hw3⟩ : ∃ w3, w3 = w2.alloc (.map #[] 0) := ⟨_, rfl⟩
  obtain ⟨w4, hw4⟩ : ∃ w4, w4 = w3.alloc (.cells #[.map (some w2.heap.size)] 60) := ⟨_, rfl⟩
  have hs3 : w3.heap.size = w2.heap.size + 1 := by rw [hw3]; simp
  have hs4 : w4.heap.size = w2.heap.size + 2 := by rw [hw4, World.size_alloc, hs3]
  have hb3 : Below w2.heap.size w2 w3 := by rw [hw3]; exact (Below.refl _ _).alloc (Nat.le_refl _) _
  have hb4 : Below w3.heap.size w3 w4 := by rw [hw4]; exact (Below.refl _ _).alloc (Nat.le_refl _) _
  have ho4 : w4.ownsMap Try.prog 9 R8 w2.heap.size 0 (.map []) := by
    have h0 := World.ownsMap_made (H := E8) w2 Try.prog 9 R8
    rw [← hw3] at h0
    rw [hw4]
    exact h0.alloc _
  have hx4 : w4.heap[w2.heap.size + 1]? = some (.cells #[.map (some w2.heap.size)] 60 (0, 0)) := by
    rw [hw4, ← hs3]
    exact heap_alloc_last w3 _
  have hb24 : Below w2.heap.size w2 w4 := hb3.trans (hb4.mono hb3.size)
  have HI4 : Hid (∀ A, Below w4.heap.size w4 A → MpI w.heap.size w2.heap.size w [] A) := fun A hA => ⟨(hA.block _ (by omega)).trans hx4, owns_same ho4 (hA.block _ (by omega)), by have := hA.size; omega, HB2.out.trans ((hb24.trans (hA.mono hb24.size)).mono HB2.out.size)⟩
  have HPE4 : Hid (∀ A, Below w4.heap.size w4 A → PE A w.heap.size w.heap.size g K) := fun A hA => by
    have hb : Below w2.heap.size w2 A := hb24.trans (hA.mono hb24.size)
    exact HPE.out.kp ⟨hb.size, hb.block _ hB4, hb.block _ hg2⟩
  have HW4 := hid_mk hw4
  have HW3 := hid_mk hw3
  have hmm := @run_makeMap Try.prog
  clear hw3 hw4 hb3 hb4 ho4 hx4 hb24
  go_wp2
  rw [← HW3.out]
  rw [← HW4.out]
  refine (wpIn_wide (n := 9)).1 ?_
  have hAl : ∀ o, Below w4.heap.size w4 ((w4.alloc (.deferred (some []))).alloc o) := fun o => ((Below.refl _ _).alloc (Nat.le_refl _) _).alloc (by simp) _
  refine range_toldM (fun x => x.n.size ≤ maxLen) (P := Try.prog) (gf := 29) (fa := #[.pointer (some ⟨w.heap.size, 0, none⟩)]) (lb := #[]) rfl (enters_of Try.func29 (by kernel_rfl) rfl)
    (fun o => each_toldM (HPE4.out _ (hAl o)) HH.out hKl HQ.out)
    (fun A A' A'' h k => ⟨Nat.le_trans h.1 k.1, k.2.1.trans h.2.1, k.2.2.trans h.2.2⟩) (fun A l o o' hl ho hc => ⟨by simp [World.putObj], World.putObj_heap_other (by omega), World.putObj_heap_other (by omega)⟩) (fun A A' h k o hk ho => h.2.same k o hk ho)
    (MpI w.heap.size w2.heap.size w) (fun _ _ _ => False) (fun xs A A' h k => h.it k ⟨hB3, hB4⟩ ⟨hg1, hg2⟩) (fun c xs A A' h _ => h) (fun xs A l o o' h hl ho hc => h.putO (by omega) (by omega) o') (fun c xs A l o o' h _ _ _ => h)
    (fun A o => ⟨Kx.of_below ((Below.refl _ _).alloc (Nat.le_refl _) _), KeepsOthers.alloc A o⟩) (fun A o hs => ⟨by simp, Below.heap_alloc A o _ (by omega), Below.heap_alloc A o g (by omega)⟩)
    (fun o => HI4.out _ (hAl o))
    (fun x q => { tmps := #[.slice a l.length c, undef, .slice none 0 0, .pointer (some ⟨w.heap.size, 0, none⟩), .pointer (some ⟨w2.heap.size + 1, 0, none⟩), .pointer (some ⟨q, 0, none⟩), undef, undef, undef, undef, undef, .slice a l.length c, .func (.func 27) #[.pointer (some ⟨w.heap.size, 0, none⟩)] #[], v2, .map (some w2.heap.size), .func (.func 29) #[.pointer (some ⟨w.heap.size, 0, none⟩)] #[], x.val, undef, undef, undef, undef, undef, undef, undef, undef, undef, undef, undef, undef, undef, undef, undef, undef, undef, undef, undef, undef, undef, undef, undef, undef, undef, undef, undef, undef, undef], defers := [] })
    ?assign ?body ?done ?stop
  case assign =>
    intro kk l x A K hK
    unfold E8.val at *
    gi_wp2
    exact hK
  case body =>
    rintro kk l pre x q A hI hbx hqx hlt
    have hqx : x.n.size ≤ maxLen := hqx
    obtain ⟨c0, c1, c2, c3, c4, c5, c6, c7⟩ := hbx.cells
    have d0 : A.cell? ⟨w2.heap.size + 1, 0, none⟩ = some (.map (some w2.heap.size)) := by simp [World.cell?, hI.1]
    have hown := hI.2.1
    have hkey := hky hqx
    obtain ⟨y, hy⟩ : ∃ y, y = ((pre.find? (kyB (ky x))).getD zE) := ⟨_, rfl⟩
    have HAT : Hid ((mOf pre).atKey (.string x.n.data.toList) (.held zE) = .held y) := by rw [hy]; exact mOf_at pre _
    have hpl : pre.length < maxLen := by unfold maxLen; omega
    dsimp only
    cases hh : Maps.has (mOf pre) (.string (ky x)) with
    | true =>
      have HFIN : Hid (∀ tmp : Obj, RoundM w4.heap.size (KpP w.heap.size g) (MpI w.heap.size w2.heap.size w) (fun _ _ _ => False) (pre ++ [x]) A .normal { tmps := #[], defers := [] } (A.alloc tmp)) := fun tmp => mp_found (t := w4.heap.size) (B := w.heap.size) (g := g) (tmp := tmp) hI ⟨hB3, hB4⟩ ⟨hg1, hg2⟩ hh
      have hh2 : Maps.has (mOf pre) (.string x.n.data.toList) = true := hh
      have HXX : ∃ u, u = pre ++ [x] := ⟨_, rfl⟩
      obtain ⟨u, hu⟩ := HXX
      rw [← hu] at HFIN ⊢
      clear hI hbx hy hh hu
      unfold E8.val at *
      obtain ⟨xn, xv, xo, xi, xa, xb, xc, xk⟩ := x
      obtain ⟨yn, yv, yo, yi, ya, yb, yc, yk⟩ := y
      dsimp only at *
      gi_wp2_with (gi_at_lookup; go_must (refine wpListIn_lookup_own_ok _ rfl _ _ 60 rfl 9 26 key9 Try.underlying60 R8 (zero26 _) (.held zE) [] (R8_val zE) w2.heap.size pre.length (mOf pre) rfl hown _ _ rfl hkey ?_); intro v ps hv; have hv2 := R8_inv (hv.trans (by rw [HAT.out])); unfold E8.val at hv2; subst hv2; rw [hh2]; clear hv)
      exact HFIN.out _
    | false =>
      have HFIN : Hid (∀ (tmp : Obj) (w5 : World), w5.ownsMap Try.prog 9 R8 w2.heap.size (pre.length + 1) ((mOf pre).put (.string (ky x)) (.held x)) → (A.alloc tmp).grownBy w5 (some w2.heap.size) → RoundM w4.heap.size (KpP w.heap.size g) (MpI w.heap.size w2.heap.size w) (fun _ _ _ => False) (pre ++ [x]) A .normal { tmps := #[], defers := [] } w5) := fun tmp w5 ho hgr => mp_new (t := w4.heap.size) (B := w.heap.size) (g := g) (tmp := tmp) hI (by omega) (by omega) ⟨hB3, hB4⟩ ⟨hg1, hg2⟩ hh ho hgr
      have hh2 : Maps.has (mOf pre) (.string x.n.data.toList) = false := hh
      have HR8 : Hid (R8 x.val = some (.held x, [])) := R8_val x
      have hown1 := fun tmp : Obj => hown.alloc tmp
      obtain ⟨z, hz⟩ : ∃ z : DataW E8, z = .held x := ⟨_, rfl⟩
      rw [← hz] at HFIN HR8
      have hkx : ky x = x.n.data.toList := rfl
      rw [hkx] at HFIN
      obtain ⟨u, hu⟩ : ∃ u, u = pre ++ [x] := ⟨_, rfl⟩
      rw [← hu] at HFIN ⊢
      have hqA := hbx.lt
      have hMA : w2.heap.size + 1 < A.heap.size := by have := hI.2.2.1; omega
      clear hI hbx hy hh hu hz hkx
      unfold E8.val at *
      obtain ⟨xn, xv, xo, xi, xa, xb, xc, xk⟩ := x
      obtain ⟨yn, yv, yo, yi, ya, yb, yc, yk⟩ := y
      dsimp only at *
      gi_wp2_with (first | (gi_at_lookup; go_must (refine wpListIn_lookup_own_ok _ rfl _ _ 60 rfl 9 26 key9 Try.underlying60 R8 (zero26 _) (.held zE) [] (R8_val zE) w2.heap.size pre.length (mOf pre) rfl hown _ _ rfl hkey ?_); intro v ps hv; have hv2 := R8_inv (hv.trans (by rw [HAT.out])); unfold E8.val at hv2; subst hv2; rw [hh2]; clear hv) | (gi_at_mapUpdate; go_must (refine wpListIn_mapUpdate_own _ rfl _ _ _ 60 rfl 9 26 key9 Try.underlying60 R8 w2.heap.size pre.length (mOf pre) rfl (hown1 _) hpl _ _ _ rfl rfl hkey z [] HR8.out ?_); intro w5 ho5 hg5; have HF5 := hid_mk (HFIN.out _ w5 ho5 hg5); clear ho5 hg5))
      exact HF5.out
  case done =>
    rintro D xs A hD hF hI hK
    have hFL : Fall (tagF l 0) xs := hF.perm HP.out
    have hkeys := hFL.keys key9 Try.underlying9 hI.2.1
    have hup := (names_up l).1
    have hsz : Maps.size (mOf xs) ≤ xs.length := hI.2.1.size_le
    have hxl : xs.length ≤ 900000 := by rw [hFL.len, tagF_len]; exact hL
    have hnl : (namesO l).length ≤ 900000 := by
      rw [hkeys.length_eq, keys_len _ hI.2.1.isMap]
      omega
    have hnk : ∀ k ∈ namesO l, k.length ≤ maxLen := fun k hk => strKeys_le hI.2.1 Try.underlying9 k (hkeys.mem_iff.1 hk)
    have hcK := (callsIn_wide (n := 5)).1 (Try.maps_Keys_35 (some w2.heap.size) A)
    have hcS := (callsIn_wide (n := 5)).1 (Try.slices_Sorted_keys_34_35 w2.heap.size xs.length (mOf xs) R8 A hI.2.1 (by unfold maxLen; omega) (by omega))
    obtain ⟨A1, hA1⟩ : ∃ A1, A1 = A.alloc (.cells #[.map (some w2.heap.size)] 60) := ⟨_, rfl⟩
    have d0 : A.cell? ⟨w2.heap.size + 1, 0, none⟩ = some (.map (some w2.heap.size)) := by simp [World.cell?, hI.1]
    rw [← hA1] at hcS hcK
    have hbA1 : Below A.heap.size A A1 := by rw [hA1]; exact (Below.refl _ _).alloc (Nat.le_refl _) _
    have HSO : Hid (∀ ss : List (List UInt8), ss.Perm (strKeys (mOf xs)) → ss.mergeSort (fun x y => decide (x ≤ y)) = namesO l ∧ ss.length = (namesO l).length) := fun ss h => ⟨hup.sort (h.trans hkeys.symm), (h.trans hkeys.symm).length_eq⟩
    have HI := hid_mk hI
    have HK := hid_mk hK
    have HFL := hid_mk hFL
    have hDA : D < A.heap.size := (Array.getElem?_eq_some_iff.1 hK).1
    have HA1 := hid_mk hbA1
    have HNK := hid_mk hnk
    have HWA := hid_mk hA1
    have hDw : w.heap.size ≤ D := by omega
    clear hF hI hK hFL hkeys hup hsz hxl hbA1 hnk hA1 hD hAl
    go_wp2_with (go_at_call 35; fail)
    refine hcK.mono ?_
    rintro e w5 ⟨rfl, hw5⟩
    rw [hw5]
    clear hw5 w5
    go_wp2_with (go_at_call 34; fail)
    refine hcS.mono ?_
    rintro e w6 ⟨v6, ss, rfl, hS, hrow, hnil, hb6⟩
    clear hnil
    obtain ⟨hs1, hs2⟩ := HSO.out ss hS
    rw [hs1, hs2] at hrow
    obtain ⟨va, vc, rfl⟩ := own_slice hrow
    have hbA6 : Below A.heap.size A w6 := HA1.out.trans (hb6.mono HA1.out.size)
    have HO6 : Hid (w6.ownsMap Try.prog 9 R8 w2.heap.size xs.length (mOf xs)) := owns_same HI.out.2.1 (hbA6.block _ (by have := HI.out.2.2.1; omega))
    have HX6 : Hid (w6.heap[w2.heap.size + 1]? = some (.cells #[.map (some w2.heap.size)] 60 (0, 0))) := (hbA6.block _ (by have := HI.out.2.2.1; omega)).trans HI.out.1
    have HK6 : Hid (w6.heap[D]? = some (.deferred (some []))) := (hbA6.block _ hDA).trans HK.out
    have HB6 : Hid (Below w.heap.size w w6) := HI.out.2.2.2.trans (hbA6.mono HI.out.2.2.2.size)
    have HR6 := hid_mk hrow
    have hD6 : D < w6.heap.size := by have := hbA6.size; omega
    have hM6 : w2.heap.size + 2 ≤ w6.heap.size := by have := hbA6.size; have := HI.out.2.2.1; omega
    have HG6 : Hid (WsGo w6 l (.slice none 0 0) 0 w6) := ⟨own_nil _ _ _ _, Below.refl _ _⟩
    obtain ⟨n, hn⟩ : ∃ n, n = (namesO l).length := ⟨_, rfl⟩
    rw [← hn] at hnl ⊢
    have HN := hid_mk hn
    clear hs1 hs2 hS hrow hb6 hbA6 hcS hcK HSO hn d0 HI HK HA1 HWA
    go_wp2
    go_loopw [8, 34] (fun a8 a34 wr => ∃ i : Nat, i ≤ n ∧ a34 = .int .i64 (i : Int) ∧ Hid (WsGo w6 l a8 i wr)) (fun _ a34 _ => n + 1 - (intOf a34).toNat)
    case atStart => exact ⟨0, Nat.zero_le _, rfl, HG6.out⟩
    case round =>
      clear HG6
      obtain ⟨i, hi, rfl, HJ⟩ := hrel
      by_cases hlt : i < n
      · have hd : decide ((i : Int) < (n : Int)) = true := decide_eq_true (by omega)
        have hil : i < (namesO l).length := by rw [← HN.out]; exact hlt
        obtain ⟨hE, hB⟩ := HJ.out
        obtain ⟨k, hk⟩ : ∃ k, k = (namesO l)[i] := ⟨_, rfl⟩
        obtain ⟨sn, hsn⟩ : ∃ sn : ByteArray, sn = ⟨k.toArray⟩ := ⟨_, rfl⟩
        have hsk : sn.data.toList = k := by rw [hsn]
        have hss : sn.size ≤ maxLen := by
          have h0 := HNK.out k (by rw [hk]; exact List.getElem_mem hil)
          rw [← hsk, Array.length_toList] at h0
          exact h0
        have hrow := ownsRow_below HR6.out hB
        obtain ⟨b, hva⟩ : ∃ b, va = some ⟨b, 0, none⟩ := by
          rcases hrow.2 with ⟨e, h0⟩ | ⟨g', cap, cur, e, _⟩
          · omega
          · cases e
            exact ⟨g', rfl⟩
        subst hva
        have hc := hrow.cells (g := b) rfl i (encStr k) (by rw [List.getElem?_map, List.getElem?_eq_getElem hil, ← hk]; rfl)
        simp only [Addr.add_mid, Nat.zero_add] at hc
        have henc : encStr k = .string sn := by rw [hsn, encStr]
        rw [henc] at hc
        have howr := owns_same HO6.out (hB.block w2.heap.size (by omega))
        have d0 : wr.cell? ⟨w2.heap.size + 1, 0, none⟩ = some (.map (some w2.heap.size)) := by simp [World.cell?, (hB.block (w2.heap.size + 1) (by omega)).trans HX6.out]
        obtain ⟨v, ps, hrun, hv⟩ := howr.lookup key9 Try.underlying60 (zero26 wr) (R8_val zE) (hky hss)
        rw [hsk, HFL.out.atKey] at hv
        have hv2 := R8_inv hv
        obtain ⟨x, hx⟩ : ∃ x, x = winK l k := ⟨_, rfl⟩
        rw [← hx] at hv2
        subst hv2
        obtain ⟨f, hf⟩ : ∃ f, f = ((namesO l).take i).map (winK l) := ⟨_, rfl⟩
        obtain ⟨m, hm⟩ : ∃ m, m = f.length := ⟨_, rfl⟩
        have HX : Hid (((namesO l).take (i + 1)).map (winK l) = f ++ [x]) := by
          show _ = _
          rw [hf, hx, hk, ← List.take_append_getElem hil, List.map_append]
          rfl
        rw [← hf] at hE
        have hmi : m ≤ i := by
          rw [hm, hf, List.length_map, List.length_take]
          omega
        have hown : wr.ownsRow w6.heap.size 26 8 u8 m (f.flatMap c8) := by rw [hm]; exact hE
        have HFL2 : Hid ((f ++ [x]).flatMap c8 = f.flatMap c8 ++ c8 x ∧ (f ++ [x]).length = m + 1) := ⟨by simp, by simp [hm]⟩
        have hn63 : m + 1 ≤ maxLen := by unfold maxLen; omega
        have hsz := hB.size
        obtain ⟨va8, vc8, rfl⟩ := own_slice hown
        obtain ⟨ys, hys⟩ : ∃ ys, ys = f.flatMap c8 := ⟨_, rfl⟩
        rw [← hys] at hown HFL2
        have HB := hid_mk hB
        unfold E8.val at hrun
        obtain ⟨xn, xv, xo, xi, xa, xb, xc, xk⟩ := x
        dsimp only at *
        clear hE hx hB hys hm hf HJ hv howr hrow hk hsn hsk hss henc
        go_wp2_with (at_builtin; go_must (refine wpList_append_lies _ rfl _ _ _ rfl w6.heap.size 26 i0 _ 8 80 Try.underlying22 hi0 hz0 hz1 hz2 rfl (by omega) (.slice va8 m vc8) m ys rfl (hown.alloc _) ⟨wr.heap.size, 0, none⟩ 1 1 [.string xn, .string xv, .int .i64 xo, .bool xi, .int .i64 xa, .int .i64 xb, .int .i64 xc, .int .i64 xk] rfl rfl (World.news_of_block (cs := #[.string xn, .string xv, .int .i64 xo, .bool xi, .int .i64 xa, .int .i64 xb, .int .i64 xc, .int .i64 xk]) (t := 26) (fr := (0, 0)) (heap_alloc_last wr _)) (by simp [Value.oneCell']) (by omega) hn63 (by omega) (by simp; omega) (wr.heap.size + 1) (by simp) ?_); intro gg cap w8 hown5 hgr5 _ _; have HO5 := hid_mk hown5; have HG5 := hid_mk hgr5; clear hown5 hgr5)
        have HFIN : Hid (WsGo w6 l (.slice (some ⟨gg, 0, none⟩) (m + 1) cap) (i + 1) w8) := by
          refine ⟨?_, (HB.out.alloc hsz _).grown HG5.out (by simp; omega) (fun k hk => (hown.lt k hk).1)⟩
          unfold EO
          rw [HX.out, HFL2.out.1, HFL2.out.2]
          exact HO5.out
        clear HO5 HG5 hown
        go_wp2
        refine ⟨⟨i + 1, by omega, by simp, HFIN.out⟩, ?_⟩
        simp only [intOf]
        omega
      · have hd : decide ((i : Int) < (n : Int)) = false := decide_eq_false (by omega)
        have hin : i = n := by omega
        subst hin
        have HE : Hid (EO wr w6.heap.size u8 ((namesO l).map (winK l)) ∧ Below w6.heap.size w6 wr) := by
          have h0 := HJ.out
          unfold WsGo at h0
          rw [HN.out, List.take_length] at h0
          exact h0
        have HKR : Hid (wr.heap[D]? = some (.deferred (some []))) := (HE.out.2.block D hD6).trans HK6.out
        have HBR : Hid (Below w.heap.size w wr) := HB6.out.trans (HE.out.2.mono HB6.out.size)
        clear HJ
        go_wp2
        exact ws_end HE.out.1 HBR.out HKR.out ⟨hDw, hD6⟩ rfl
  case stop =>
    rintro D c pre A _ _ h _
    exact h.elim
end Go.Proofs.Ytmpppijgjbfolaa.C
