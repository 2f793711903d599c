/- The document's copy. The document's copy: the walk. The document's Insert: what it refuses. A store into the row of a tree of one's own; into its number. -/
import Derived.Test.YtdiljkmlneeboaaGreatRfB
import Derived.Deep.RegionLaw
namespace Go.Proofs.YtdiljkmlneeboaaGreat.N
open Go.RowKit
set_option maxRecDepth 100000

theorem step_append_rowAt {ops : Array Oper} {o : Oper} {a : Act} {K : Act → World → Prop} {Q : Exit → Act → World → Prop} {E : Prop} {w : World} (hgd : o.guard = none) (s x : Operand) (t : TypeId) (ho : o.op = .call { callee := .builtin .append, args := #[s, x], argTypes := #[t, t] })
    {B : Nat} {e : TypeId} {i : TypeInfo} {z : Value} {size bytes : Nat} (ht : Tryz.prog.underlying t = some (.slice e)) (hi : Tryz.prog.info? e = some i) (hz : i.zero = some z) (hsize : i.size = size) (hby : i.bytes = bytes) (hzs : z.cells.size = size) (hsz : 0 < size) (hbl : bytes ≤ 1000)
    {v : Value} {ua : Addr} {n m c : Nat} {xs ys : List Value} (hs : a.eval s = v) (hx : a.eval x = .slice (some ua) m c) (hown : w.ownsRow B e size v n xs) (hsrc : RowAt w size (some ua) m c ys) (hn : n + m ≤ 1000000) (hB : B ≤ w.heap.size)
    (h : ∀ v' w', w'.ownsRow B e size v' (n + m) (xs ++ ys) → w.grownBy w' v.ownBlock → (v'.ownBlock = v.ownBlock ∨ v'.ownBlock = some w.heap.size) → K (a.put o.dst v') w') : if Region.wanted o (yielded ops a.tmps) = true then Oper.wp Tryz.prog o a w K Q else E := by
  have hw : Region.wanted o (yielded ops a.tmps) = true := by simp [Region.wanted, hgd]
  rw [if_pos hw]
  obtain ⟨hl, hmc, hcm, h1, hc⟩ := hsrc
  rcases hc with ⟨e0, _⟩ | ⟨b, off, e0, _, hcell⟩
  · cases e0
  · cases e0
    obtain ⟨v', w', hr, h2, h3, _, h5⟩ := run_append_own_at (P := Tryz.prog) w B t o.type e i z size bytes ht hi hz hsize hby hzs hsz v n xs hown ⟨b, off, none⟩ m c ys hl (fun j y hy => by rw [Addr.add_mid]; exact hcell j y hy) h1 (by unfold maxLen; omega) (Nat.le_trans (Nat.mul_le_mul hn hbl) (by decide)) hB
    unfold Oper.wp execOp
    simp only [ho, resolve, invoke, builtin, Sem.run_bind, Sem.run_pure, Result.andThen_ok, List.map_toArray, List.map_cons, List.map_nil, hs, hx, hr]
    exact h v' w' h2 h3 h5

/-- The element's lists do not lie in that block. -/
def Off (g : Nat) (s : N5) : Prop := (∀ x, s.ka = some x → x.block ≠ g) ∧ ∀ x, s.aa = some x → x.block ≠ g
/-- A row of elements of one's own; none of their lists lies in the row, or in b. -/
def LOwn (B : Nat) (w : World) (b : Nat) (v : Value) (L : List El) : Prop := ∃ ss : List N5, w.ownsRow B 76 5 v L.length (ss.flatMap c5) ∧ ss.length = L.length ∧ (∀ i (h : i < L.length) (h' : i < ss.length), ElAt w ss[i] L[i]) ∧ (∀ s ∈ ss, Off b s ∧ ∀ g, v.ownBlock = some g → Off g s) ∧ v.ownBlock ≠ some b
theorem RowAt.stay {w w' : World} {sz n c : Nat} {a : Option Addr} {xs : List Value} (h : RowAt w sz a n c xs) {P : Nat → Prop} (hs : w.heap.size ≤ w'.heap.size) (hb : ∀ k, k < w.heap.size → P k → w'.heap[k]? = w.heap[k]?) (hP : ∀ x, a = some x → P x.block) : RowAt w' sz a n c xs := by
  obtain ⟨h1, h2, h3, h4, h5⟩ := h
  refine ⟨h1, h2, h3, h4, ?_⟩
  rcases h5 with h | ⟨b, off, e, hl, hc⟩
  · exact .inl h
  · exact .inr ⟨b, off, e, Nat.lt_of_lt_of_le hl hs, fun j u hu => (World.cell?_of_block (a := ⟨b, off + j, none⟩) (hb b hl (hP _ e))).trans (hc j u hu)⟩
theorem ElAt.stay {w w' : World} {s : N5} {e : El} (h : ElAt w s e) {P : Nat → Prop} (hs : w.heap.size ≤ w'.heap.size) (hb : ∀ k, k < w.heap.size → P k → w'.heap[k]? = w.heap[k]?) (hP : (∀ x, s.ka = some x → P x.block) ∧ ∀ x, s.aa = some x → P x.block) : ElAt w' s e :=
  ⟨h.1, h.2.1, h.2.2.1, h.2.2.2.1.stay hs hb hP.1, h.2.2.2.2.stay hs hb hP.2⟩
theorem ElAt.low {w : World} {s : N5} {e : El} (h : ElAt w s e) : (∀ x, s.ka = some x → x.block < w.heap.size) ∧ ∀ x, s.aa = some x → x.block < w.heap.size := by
  constructor
  · intro x hx
    rcases h.2.2.2.1.2.2.2.2 with ⟨h0, _⟩ | ⟨b, off, e, hl, _⟩
    · rw [h0] at hx; cases hx
    · rw [e] at hx; cases hx; exact hl
  · intro x hx
    rcases h.2.2.2.2.2.2.2.2 with ⟨h0, _⟩ | ⟨b, off, e, hl, _⟩
    · rw [h0] at hx; cases hx
    · rw [e] at hx; cases hx; exact hl
/-- One element more. -/
theorem LOwn.add {B b : Nat} {w w' : World} {v v' : Value} {L : List El} {ss : List N5} {s : N5} {e : El} (h2 : ss.length = L.length) (h3 : ∀ i (h : i < L.length) (h' : i < ss.length), ElAt w ss[i] L[i]) (h4 : ∀ s ∈ ss, Off b s ∧ ∀ g, v.ownBlock = some g → Off g s) (h5 : v.ownBlock ≠ some b) (hE : ElAt w s e) (hb : Off b s) (hg : ∀ g, v.ownBlock = some g → Off g s) (hown : w'.ownsRow B 76 5 v' (L.length + 1) (ss.flatMap c5 ++ c5 s)) (hgr : w.grownBy w' v.ownBlock) (hat : v'.ownBlock = v.ownBlock ∨ v'.ownBlock = some w.heap.size) (hbl : b < w.heap.size) : LOwn B w' b v' (L ++ [e]) := by
  have hall : ∀ i (h : i < (L ++ [e]).length) (h' : i < (ss ++ [s]).length), ElAt w (ss ++ [s])[i] (L ++ [e])[i] := fun i hi hi' => by
    by_cases hlt : i < L.length
    · rw [List.getElem_append_left hlt, List.getElem_append_left (by omega)]
      exact h3 i hlt (by omega)
    · have : i = L.length := by simp at hi; omega
      subst this
      simpa [h2] using hE
  have hoff : ∀ s' ∈ ss ++ [s], Off b s' ∧ ∀ g, v.ownBlock = some g → Off g s' := fun s' hs' => by
    rcases List.mem_append.1 hs' with h | h
    · exact h4 s' h
    · rw [List.mem_singleton] at h
      rw [h]
      exact ⟨hb, hg⟩
  refine ⟨ss ++ [s], ?_, by simp [h2], fun i hi hi' => ?_, fun s' hs' => ?_, ?_⟩
  · rw [List.flatMap_append, List.length_append]
    simpa using hown
  · refine (hall i hi hi').stay (P := fun k => v.ownBlock ≠ some k) hgr.size (fun k hk hP => hgr.block k hk (fun e => hP e.symm)) ?_
    have := (hoff _ (List.getElem_mem hi')).2
    exact ⟨fun x hx e => (this _ e).1 x hx rfl, fun x hx e => (this _ e).2 x hx rfl⟩
  · refine ⟨(hoff s' hs').1, fun g hgv => ?_⟩
    rcases hat with e1 | e1
    · exact (hoff s' hs').2 g (e1 ▸ hgv)
    · rw [e1] at hgv
      cases hgv
      obtain ⟨i, hi, rfl⟩ := List.getElem_of_mem hs'
      have hl := (hall i (by simp [h2] at hi ⊢; omega) hi).low
      exact ⟨fun x hx e => by have := hl.1 x hx; omega, fun x hx e => by have := hl.2 x hx; omega⟩
  · rcases hat with e1 | e1
    · rw [e1]; exact h5
    · rw [e1]
      intro e2
      have := Option.some.inj e2
      omega

/-- The document's tree of one's own. -/
def ROwn (B : Nat) (w : World) (b : Nat) (L : List El) (nx : Int) : Prop := B ≤ b ∧ ∃ v, w.heap[b]? = some (.cells #[v, .int .i64 nx] 126 (0, 0)) ∧ LOwn B w b v L
theorem LOwn.ls {B b : Nat} {w : World} {v : Value} {L : List El} (h : LOwn B w b v L) : ∃ a c, v = .slice a L.length c ∧ LsAt w a L.length c L := by
  obtain ⟨ss, h1, h2, h3, _⟩ := h
  obtain ⟨a, c, rfl, hr, _⟩ := RowAt.of_owns h1 (flat5_one ss)
  exact ⟨a, c, rfl, ss, hr, h2, h3⟩
theorem ROwn.doc {B b : Nat} {w : World} {L : List El} {nx : Int} (h : ROwn B w b L nx) : RDoc w (.pointer (some ⟨b, 0, none⟩)) L nx := by
  obtain ⟨_, v, h1, h2⟩ := h
  obtain ⟨a, c, rfl, hl⟩ := h2.ls
  exact ⟨b, a, _, c, rfl, h1, hl⟩
theorem LOwn.keep {B b : Nat} {w w' : World} {v : Value} {L : List El} (h : LOwn B w b v L) (hb : Below w.heap.size w w') : LOwn B w' b v L := by
  obtain ⟨ss, h1, h2, h3, h4, h5⟩ := h
  exact ⟨ss, ownsRow_below h1 hb, h2, fun i hi hi' => (h3 i hi hi').keep hb, h4, h5⟩
theorem ROwn.keep {B b : Nat} {w w' : World} {L : List El} {nx : Int} (h : ROwn B w b L nx) (hb : Below w.heap.size w w') : ROwn B w' b L nx := by
  obtain ⟨h0, v, h1, h2⟩ := h
  exact ⟨h0, v, (hb.block _ (Array.getElem?_eq_some_iff.1 h1).1).trans h1, h2.keep hb⟩
/-- The tree's own list is put in its place. -/
theorem LOwn.store {B b : Nat} {w : World} {v v0 : Value} {L : List El} {nx : Int} (h : LOwn B w b v L) (hB : B ≤ b) (hd : w.heap[b]? = some (.cells #[v0, .int .i64 nx] 126 (0, 0))) : ROwn B (w.setCell ⟨b, 0, none⟩ v) b L nx := by
  refine ⟨hB, v, heap_setCell_same w b 0 _ 126 v hd, ?_⟩
  obtain ⟨ss, h1, h2, h3, h4, h5⟩ := h
  have hsz : w.heap.size ≤ (w.setCell ⟨b, 0, none⟩ v).heap.size := by simp
  have hbl : ∀ k, k < w.heap.size → k ≠ b → (w.setCell ⟨b, 0, none⟩ v).heap[k]? = w.heap[k]? := fun k _ hk => Below.heap_setCell w ⟨b, 0, none⟩ v k hk
  refine ⟨ss, ownsRow_keep h1 (fun g hg hv => hbl g hg (fun e => h5 (by rw [← e]; exact hv))), h2, fun i hi hi' => ?_, h4, h5⟩
  have := (h4 _ (List.getElem_mem hi')).1
  exact (h3 i hi hi').stay (P := fun k => k ≠ b) hsz hbl ⟨this.1, this.2⟩
theorem row5 {W : World} {g : Nat} {s : N5} {t : TypeId} (h : W.heap[g]? = some (.cells #[.int .i64 s.id, .string s.tag, .int .i64 s.par, .slice s.ka s.kn s.kc, .slice s.aa s.an s.ac] t (0, 0))) : RowAt W 5 (some ⟨g, 0, none⟩) 1 1 (c5 s) := by
  refine ⟨rfl, Nat.le_refl _, by decide, fun u hu => ?_, .inr ⟨g, 0, rfl, (Array.getElem?_eq_some_iff.1 h).1, fun j u hu => ?_⟩⟩
  · have := flat5_one [s] u
    simp only [List.flatMap_cons, List.flatMap_nil, List.append_nil] at this
    exact this hu
  · rw [Nat.zero_add]
    simp only [World.cell?, h]
    simpa [c5] using hu
theorem info52r : ∃ i z, Tryz.prog.info? 76 = some i ∧ i.zero = some z ∧ i.size = 5 ∧ i.bytes = 80 ∧ z.cells.size = 5 := ⟨_, _, by rfl, by rfl, by rfl, by rfl, rfl⟩

end Go.Proofs.YtdiljkmlneeboaaGreat.N
namespace Go.Proofs.YtdiljkmlneeboaaGreat.N
open Go.RowKit
set_option maxRecDepth 100000

set_option maxHeartbeats 8000000 in
theorem rcopy_any {w : World} {rp : Value} {L : List El} {m : M} {nx : Int} (h : RTree w rp L m nx) (hlen : L.length ≤ 100000) : Calls Tryz.prog 104 #[rp] w fun x w' => ∃ b, x = .returned (.pointer (some ⟨b, 0, none⟩)) ∧ ROwn w.heap.size w' b L nx ∧ Below w.heap.size w w' := by
  obtain ⟨b, a, n, c, rfl, hbl, hL, rfl, hnc, hcm, hcell⟩ := h.1.cells
  obtain ⟨y0, y1⟩ := hcell w (Below.refl _ _)
  obtain ⟨w1, hw1⟩ : ∃ w1, w1 = w.alloc (.cells #[.slice none 0 0, .int .i64 nx] 126) := ⟨_, rfl⟩
  have hB1 : Below w.heap.size w w1 := by rw [hw1]; exact (Below.refl _ _).alloc (Nat.le_refl _) _
  have hD1 : w1.heap[w.heap.size]? = some (.cells #[.slice none 0 0, .int .i64 nx] 126 (0, 0)) := by rw [hw1]; exact heap_alloc_last w _
  obtain ⟨y2, _⟩ := hcell w1 hB1
  have HC : Hid (∀ w', Below w.heap.size w w' → ∀ i (hi : i < L.length), ∃ (s : N5) (ab ao : Nat), a = some ⟨ab, ao, none⟩ ∧ s.id = L[i].id ∧ w'.cell? ⟨ab, ao + i * 5, none⟩ = some (.int .i64 s.id) ∧ w'.cell? ⟨ab, ao + i * 5 + 1, none⟩ = some (.string s.tag) ∧ w'.cell? ⟨ab, ao + i * 5 + 2, none⟩ = some (.int .i64 s.par) ∧ w'.cell? ⟨ab, ao + i * 5 + 3, none⟩ = some (.slice s.ka s.kn s.kc) ∧ w'.cell? ⟨ab, ao + i * 5 + 4, none⟩ = some (.slice s.aa s.an s.ac)) := fun w' hw' i hi => by
    obtain ⟨s, ab, ao, e, _, hE, g0, g1, g2, g3, g4⟩ := (hL.keep hw').at hi
    exact ⟨s, ab, ao, e, hE.1, g0, g1, g2, g3, g4⟩
  have HND : Hid (∀ w' i (hi : i < L.length), Below w.heap.size w w' → Calls Tryz.prog 33 #[.pointer (some ⟨b, 0, none⟩), .int .i64 L[i].id] w' fun x w'' => ∃ s : N5, x = .returned (.tuple #[.agg #[.int .i64 s.id, .string s.tag, .int .i64 s.par, .slice s.ka s.kn s.kc, .slice s.aa s.an s.ac], .bool true]) ∧ ElAt w'' s L[i] ∧ (NewAt w'.heap.size s.ka ∧ NewAt w'.heap.size s.aa) ∧ Below w'.heap.size w' w'') := fun w' i hi hw' => by
    have := rt_node (h.keep hw') L[i].id
    rw [h.mem (List.getElem_mem hi)] at this
    exact this
  have HO1 : Hid (ROwn w.heap.size w1 w.heap.size [] nx) := ⟨Nat.le_refl _, _, hD1, [], ⟨rfl, .inl ⟨rfl, rfl⟩⟩, rfl, fun i hi => absurd hi (by simp), fun s hs => absurd hs (by simp), by simp [Value.ownBlock]⟩
  have HW1 := hid_mk hw1
  have HB1 := hid_mk hB1
  obtain ⟨i5, z5, hi0, hz0, hz1, hz2, hz3⟩ := info52r
  have HI0 := hid_mk hi0
  have HZ0 := hid_mk hz0
  have HZ1 := hid_mk hz1
  have HZ2 := hid_mk hz2
  have HZ3 := hid_mk hz3
  clear hw1 hB1 hD1 hcell hL h hi0 hz0 hz1 hz2 hz3
  go_enter Tryz.func104, Tryz.ntmps104
  go_upto_region 2 with (fail)
  rw [← HW1.out]
  go_wp2
  go_loopw [19] (fun a19 wq => ∃ t : Nat, t ≤ L.length ∧ a19 = .int .i64 (t : Int) ∧ Hid (ROwn w.heap.size wq w.heap.size (L.take t) nx) ∧ Hid (Below w.heap.size w wq)) (fun a19 _ => L.length + 1 - (intOf a19).toNat)
  case atStart => exact ⟨0, Nat.zero_le _, rfl, HO1, HB1⟩
  case round =>
    clear HO1 HB1 y0 y1 y2
    obtain ⟨t, ht, rfl, HO, HB⟩ := hrel
    by_cases htl : t < L.length
    · obtain ⟨s, ab, ao, rfl, hid, g0, g1, g2, g3, g4⟩ := HC.out wr HB.out t htl
      obtain ⟨w3, hw3⟩ : ∃ w3, w3 = wr.alloc (.cells #[.int .i64 s.id, .string s.tag, .int .i64 s.par, .slice s.ka s.kn s.kc, .slice s.aa s.an s.ac] 76) := ⟨_, rfl⟩
      have hB3 : Below wr.heap.size wr w3 := by rw [hw3]; exact (Below.refl _ _).alloc (Nat.le_refl _) _
      have hN3 : NodeAt w3 wr.heap.size s := by rw [hw3]; exact heap_alloc_last wr _
      obtain ⟨⟨n0, _, _, _, _⟩, _⟩ := hN3.cells
      rw [hid] at n0
      have hnd := HND.out w3 t htl (HB.out.trans (hB3.mono HB.out.size))
      have HB3 : Hid (Below w.heap.size w w3) := HB.out.trans (hB3.mono HB.out.size)
      have HO3 := hid_mk (HO.out.keep hB3)
      have HTK : Hid (L.take (t + 1) = L.take t ++ [L[t]]) := by rw [Hid, List.take_add_one, List.getElem?_eq_getElem htl]; rfl
      have HW3 := hid_mk hw3
      generalize L[t] = el at *
      clear hB3 hN3 hw3 hid HND HC HO HB
      go_upto_region 5 with (fail)
      rw [← HW3.out]
      clear g0 g1 g2 g3 g4
      go_wp2_with (go_at_call 33; fail)
      refine hnd.mono ?_
      rintro x w5 ⟨s2, rfl, hE5, ⟨hn1, hn2⟩, hB5⟩
      obtain ⟨w6, hw6⟩ : ∃ w6, w6 = w5.alloc (.cells #[.int .i64 s2.id, .string s2.tag, .int .i64 s2.par, .slice s2.ka s2.kn s2.kc, .slice s2.aa s2.an s2.ac] 76) := ⟨_, rfl⟩
      have hB56 : Below w5.heap.size w5 w6 := by rw [hw6]; exact (Below.refl _ _).alloc (Nat.le_refl _) _
      have hB36 : Below w3.heap.size w3 w6 := hB5.trans (hB56.mono hB5.size)
      have hN6 : NodeAt w6 w5.heap.size s2 := by rw [hw6]; exact heap_alloc_last w5 _
      obtain ⟨⟨k0, k1, k2, k3, k4⟩, _⟩ := hN6.cells
      obtain ⟨_, v, hd3, hLO3⟩ := HO3.out
      have hd6 := (hB36.block _ (Array.getElem?_eq_some_iff.1 hd3).1).trans hd3
      have hLO := hLO3.keep hB36
      have hv3 : ∀ g, v.ownBlock = some g → g < w3.heap.size := by
        obtain ⟨_, h1, _⟩ := hLO3
        exact fun g hg => (h1.lt g hg).2
      have hdl : w.heap.size < w3.heap.size := (Array.getElem?_eq_some_iff.1 hd3).1
      have hoffb : Off w.heap.size s2 := ⟨fun x hx e => by have := hn1 x hx; omega, fun x hx e => by have := hn2 x hx; omega⟩
      have hoffg : ∀ g, v.ownBlock = some g → Off g s2 := fun g hg => by
        have := hv3 g hg
        exact ⟨fun x hx e => by have := hn1 x hx; omega, fun x hx e => by have := hn2 x hx; omega⟩
      have hE6 := hE5.keep hB56
      have HB6 : Hid (Below w.heap.size w w6) := HB3.out.trans (hB36.mono HB3.out.size)
      have hlt6 : (L.take t).length ≤ 100000 := by rw [List.length_take]; omega
      have HW6 := hid_mk hw6
      obtain ⟨va, vc, rfl, _⟩ := hLO.ls
      have c0 : w6.cell? ⟨w.heap.size, 0, none⟩ = some (.slice va (L.take t).length vc) := by simp [World.cell?, hd6]
      have HLO := hid_mk hLO
      have HD6 := hid_mk hd6
      have HOB := hid_mk hoffb
      have HOG := hid_mk hoffg
      have HE6 := hid_mk hE6
      have HFX : ∀ W', Below w6.heap.size w6 W' → W'.cell? ⟨w5.heap.size, 0, none⟩ = some (.int .i64 s2.id) ∧ W'.cell? ⟨w5.heap.size, 1, none⟩ = some (.string s2.tag) ∧ W'.cell? ⟨w5.heap.size, 2, none⟩ = some (.int .i64 s2.par) ∧ W'.cell? ⟨w5.heap.size, 3, none⟩ = some (.slice s2.ka s2.kn s2.kc) ∧ W'.cell? ⟨w5.heap.size, 4, none⟩ = some (.slice s2.aa s2.an s2.ac) := fun W' hW' => (NodeAt.cells ((hW'.block _ (Array.getElem?_eq_some_iff.1 hN6).1).trans hN6)).1
      clear hd3 hLO3 hLO hv3 hoffb hoffg hE6 hE5 hn1 hn2 hB5 hB56 hB36 hN6 hnd hw6 hd6 HO3 n0
      generalize hLt : L.take t = Lt at *
      have HLt := hid_mk hLt
      clear hLt
      go_upto_region 6 with (fail)
      rw [← HW6.out]
      have hi0 := HI0.out
      have hz0 := HZ0.out
      have hz1 := HZ1.out
      have hz2 := HZ2.out
      have hz3 := HZ3.out
      obtain ⟨X, hX⟩ : ∃ X, X = Obj.cells #[.int .i64 s2.id, .string s2.tag, .int .i64 s2.par, .slice s2.ka s2.kn s2.kc, .slice s2.aa s2.an s2.ac] 76 := ⟨_, rfl⟩
      have hBX : Below w6.heap.size w6 ((w6.alloc X).drew) := ((Below.refl _ _).alloc (Nat.le_refl _) _).drew
      have hsz6 : w.heap.size ≤ w6.heap.size := HB6.out.size
      have hsrc : RowAt ((w6.alloc X).drew) 5 (some ⟨w6.heap.size, 0, none⟩) 1 1 (c5 s2) := by rw [hX]; exact row5 (t := 76) (heap_alloc_last w6 _)
      have hLX := HLO.out.keep hBX
      have HLX := hid_mk hLX
      obtain ⟨ss, hown, hsl, hx3, hx4, hob⟩ := hLX
      have HX3 := hid_mk hx3
      have HX4 := hid_mk hx4
      have HOBN := hid_mk hob
      have HOWN := hid_mk hown
      have HSL := hid_mk hsl
      have hBs : w.heap.size ≤ ((w6.alloc X).drew).heap.size := Nat.le_trans hsz6 hBX.size
      have HBX := hid_mk hBX
      have hdX := (hBX.block _ (Array.getElem?_eq_some_iff.1 HD6.out).1).trans HD6.out
      have hd6l : w.heap.size < ((w6.alloc X).drew).heap.size := (Array.getElem?_eq_some_iff.1 hdX).1
      have HGB : Hid (∀ w7, ((w6.alloc X).drew).grownBy w7 (Value.slice va Lt.length vc).ownBlock → w7.heap[w.heap.size]? = some (.cells #[.slice va Lt.length vc, .int .i64 nx] 126 (0, 0)) ∧ w7.cell? ⟨w.heap.size, 0, none⟩ = some (.slice va Lt.length vc) ∧ w7.frozen? ⟨w.heap.size, 0, none⟩ = false) := fun w7 hg => by
        have h7 := (hg.block _ hd6l (fun e => hob e.symm)).trans hdX
        exact ⟨h7, by simp [World.cell?, h7], by simp [World.frozen?, h7]⟩
      have hl6 : w.heap.size < w6.heap.size := (Array.getElem?_eq_some_iff.1 HD6.out).1
      have cX : ((w6.alloc X).drew).cell? ⟨w.heap.size, 0, none⟩ = some (.slice va Lt.length vc) := by simp [World.cell?, hdX]
      obtain ⟨j0, j1, j2, j3, j4⟩ := HFX _ hBX
      clear hsl hBX hdX hd6l hob hx3 hx4
      rw [hX] at hown hsrc hBs HGB HLX HBX HX3 HOWN cX j0 j1 j2 j3 j4
      clear HFX
      go_region_law (first
        | (refine step_append_rowAt (by rfl) _ _ 124 (by rfl) (B := w.heap.size) Tryz.underlying124 hi0 hz0 hz1 hz2 hz3 (by decide) (by decide) (by rfl) (by rfl) hown hsrc (by omega) hBs ?_; intro v7 w7 hown7 hgr7 hat7; have HG7 := hid_mk hgr7; have HO7 := hid_mk hown7; have HA7 := hid_mk hat7; obtain ⟨hd7, c7, f7⟩ := HGB.out w7 hgr7; have HD7 := hid_mk hd7; obtain ⟨a7, e7, rfl⟩ := own_slice hown7; clear hgr7 hown7 hat7 hd7))
      all_goals
        have hB7 : Below w.heap.size w w7 := (HB6.out.trans (HBX.out.mono HB6.out.size)).grown HG7.out (HB6.out.trans (HBX.out.mono HB6.out.size)).size (fun k hk => (HOWN.out.lt k hk).1)
        have hA7 : LOwn w.heap.size w7 w.heap.size (.slice a7 (Lt.length + 1) e7) (Lt ++ [el]) := LOwn.add HSL.out HX3.out HX4.out HOBN.out (HE6.out.keep HBX.out) HOB.out HOG.out HO7.out HG7.out HA7.out (Nat.lt_of_lt_of_le (Array.getElem?_eq_some_iff.1 HD6.out).1 HBX.out.size)
        have hS7 := hA7.store (Nat.le_refl _) HD7.out
        rw [← HTK.out] at hS7
        have HS7 := hid_mk hS7
        have HB8 := hid_mk (hB7.setCell (p := ⟨w.heap.size, 0, none⟩) (Nat.le_refl _) (.slice a7 (Lt.length + 1) e7))
        clear hB7 hA7 hS7 c7 f7
        go_wp2
        exact ⟨⟨t + 1, htl, by go_num, HS7, HB8⟩, by simp only [intOf]; omega⟩
    · obtain rfl : t = L.length := by omega
      have hO := HO.out
      rw [List.take_length] at hO
      have HO2 := hid_mk hO
      clear HC HND HO hO
      go_wp2
      go_ret
      exact ⟨w.heap.size, rfl, HO2.out, HB.out⟩

end Go.Proofs.YtdiljkmlneeboaaGreat.N
namespace Go.Proofs.YtdiljkmlneeboaaGreat.N
open Go.RowKit
set_option maxRecDepth 100000

theorem ret3e {v : Value} {a c : Int} (h : c = a) : Ending.returned (.tuple #[v, .int .i64 0, .int .i64 a]) = .returned (.tuple #[v, .int .i64 0, .int .i64 c]) := by rw [h]
set_option maxHeartbeats 4000000 in
theorem rinsert_err {w : World} {b : Nat} {L : List El} {m : M} {nx : Int} (h : RTree w (.pointer (some ⟨b, 0, none⟩)) L m nx) (p i : Int) (tag : ByteArray) (hs : tag.size ≤ 281474976710656) (he : insErr m p i tag ≠ 0) : Calls Tryz.prog 64 #[.pointer (some ⟨b, 0, none⟩), .int .i64 p, .int .i64 i, .string tag] w fun x w' => x = .returned (.tuple #[.pointer (some ⟨b, 0, none⟩), .int .i64 0, .int .i64 (insErr m p i tag)]) ∧ Below w.heap.size w w' := by
  have hnd := rt_node h p
  have HDP : Hid (∀ w', Below w.heap.size w w' → _) := fun w' hw' => rdepth_any (h.keep hw') p
  have HNM : Hid (∀ w', _) := fun w' => refName_any tag w' hs
  obtain ⟨bb, a, n, c, e0, hbl, _, _, _, _, hcell⟩ := h.1.cells
  cases e0
  obtain ⟨d, I⟩ := h.2.2.2
  have hnb := I.nxb
  have HCN : Hid (∀ W, Below w.heap.size w W → W.cell? ⟨b, 1, none⟩ = some (.int .i64 nx)) := fun W hW => (hcell W hW).2
  have HUP : Hid (∀ e, m p = some e → (ups m p).length ≤ 512) := fun e h => by rw [ups_len I h]; exact I.top h
  have HKL : Hid (∀ e, m p = some e → e.ks.length ≤ 100000) := fun e h => by have := I.ksLen h; omega
  clear hcell I h
  cases hm : m p with
  | none =>
    rw [hm] at hnd
    have HE : Hid (insErr m p i tag = 1) := by rw [Hid, insErr, hm]
    clear HDP HNM HCN HUP HKL hm he
    go_enter Tryz.func64, Tryz.ntmps64
    go_wp2_with (go_at_call 33; fail)
    refine hnd.mono ?_
    rintro x w2 ⟨s, rfl, _, _, hB2⟩
    have HB2 : Hid (Below w.heap.size w (w2.alloc (.cells #[.int .i64 s.id, .string s.tag, .int .i64 s.par, .slice s.ka s.kn s.kc, .slice s.aa s.an s.ac] 76))) := hB2.alloc hB2.size _
    clear hnd hB2
    go_wp2
    refine bodyPost_ret (v := .tuple #[.pointer (some ⟨b, 0, none⟩), .int .i64 0, .int .i64 1]) (by simp [results, Tryz.results64, go_sem]) rfl ⟨ret3e HE.out, HB2.out⟩
  | some el =>
    rw [hm] at hnd
    have HE : Hid (insErr m p i tag = if i < 0 ∨ (el.ks.length : Int) < i then 3 else if nameZ tag = false then 7 else if 512 ≤ (ups m p).length then 5 else 0) := by rw [Hid, insErr, hm]
    have hup := HUP.out el hm
    have hkl := HKL.out el hm
    clear HUP HKL hm
    go_enter Tryz.func64, Tryz.ntmps64
    go_wp2_with (go_at_call 33; fail)
    refine hnd.mono ?_
    rintro x w2 ⟨s, rfl, hE0, _, hB2⟩
    have hkn : s.kn = el.ks.length := ElAt.kn (e := el) hE0
    obtain ⟨w3, hw3⟩ : ∃ w3, w3 = w2.alloc (.cells #[.int .i64 s.id, .string s.tag, .int .i64 s.par, .slice s.ka s.kn s.kc, .slice s.aa s.an s.ac] 76) := ⟨_, rfl⟩
    have HB3 : Hid (Below w.heap.size w w3) := by rw [hw3]; exact hB2.alloc hB2.size _
    have hN3 : NodeAt w3 w2.heap.size s := by rw [hw3]; exact heap_alloc_last w2 _
    obtain ⟨⟨_, _, _, n3, _⟩, _⟩ := hN3.cells
    rw [hkn] at n3
    have HW3 := hid_mk hw3
    clear hnd hE0 hB2 hw3 hN3 hkn
    go_upto_region 2 with (fail)
    rw [← HW3.out]
    by_cases h1 : i < 0 ∨ (el.ks.length : Int) < i
    · have HE2 : Hid (insErr m p i tag = 3) := by rw [Hid, HE.out, if_pos h1]
      clear he HDP HNM HCN HE
      rcases h1 with h1 | h1
      · go_wp2
        refine bodyPost_ret (v := .tuple #[.pointer (some ⟨b, 0, none⟩), .int .i64 0, .int .i64 3]) (by simp [results, Tryz.results64, go_sem]) rfl ⟨ret3e HE2.out, HB3.out⟩
      · have h2 : 0 ≤ i := by omega
        go_wp2
        refine bodyPost_ret (v := .tuple #[.pointer (some ⟨b, 0, none⟩), .int .i64 0, .int .i64 3]) (by simp [results, Tryz.results64, go_sem]) rfl ⟨ret3e HE2.out, HB3.out⟩
    · have HE2 : Hid (insErr m p i tag = if nameZ tag = false then 7 else if 512 ≤ (ups m p).length then 5 else 0) := by rw [Hid, HE.out, if_neg h1]
      clear HE
      have h2 : 0 ≤ i := by omega
      have h3 : i ≤ (el.ks.length : Int) := by omega
      have hnm := HNM.out w3
      clear h1 HNM
      cases hz : nameZ tag with
      | false =>
        rw [hz] at hnm
        have HE3 : Hid (insErr m p i tag = 7) := by rw [Hid, HE2.out, if_pos hz]
        clear he HDP HCN hz HE2
        go_wp2_with (go_at_call 102; refine hnm.mono ?_; clear hnm; rintro e wx ⟨rfl, rfl⟩)
        refine bodyPost_ret (v := .tuple #[.pointer (some ⟨b, 0, none⟩), .int .i64 0, .int .i64 7]) (by simp [results, Tryz.results64, go_sem]) rfl ⟨ret3e HE3.out, HB3.out⟩
      | true =>
        rw [hz] at hnm
        have HE3 : Hid (insErr m p i tag = if 512 ≤ (ups m p).length then 5 else 0) := by rw [Hid, HE2.out, if_neg (by rw [hz]; simp)]
        have h5 : 512 ≤ (ups m p).length := by
          by_cases h : 512 ≤ (ups m p).length
          · exact h
          · exact absurd (by rw [HE3.out, if_neg h]) he
        have HE4 : Hid (insErr m p i tag = 5) := by rw [Hid, HE3.out, if_pos h5]
        have hdp := HDP.out w3 HB3.out
        have h6 : (ups m p).length = 512 := by omega
        rw [h6] at hdp
        clear he HDP HCN hz h5 h6 hup HE2 HE3
        go_wp2_with (first
          | (go_at_call 102; refine hnm.mono ?_; clear hnm; rintro e wx ⟨rfl, rfl⟩)
          | (go_at_call 103; refine hdp.mono ?_; clear hdp; rintro e w4 ⟨rfl, hB4⟩))
        refine bodyPost_ret (v := .tuple #[.pointer (some ⟨b, 0, none⟩), .int .i64 0, .int .i64 5]) (by simp [results, Tryz.results64, go_sem]) rfl ⟨ret3e HE4.out, HB3.out.trans (hB4.mono HB3.out.size)⟩

end Go.Proofs.YtdiljkmlneeboaaGreat.N
namespace Go.Proofs.YtdiljkmlneeboaaGreat.N
open Go.RowKit
set_option maxRecDepth 100000

theorem ownsRow_set {w : World} {B size n g : Nat} {e : TypeId} {v : Value} {xs : List Value} (h : w.ownsRow B e size v n xs) (hg : v.ownBlock = some g) (off : Nat) (u : Value) : (w.setCell ⟨g, off, none⟩ u).ownsRow B e size v n (xs.set off u) := by
  obtain ⟨hl, hc⟩ := h
  refine ⟨by rw [List.length_set]; exact hl, ?_⟩
  rcases hc with ⟨rfl, _⟩ | ⟨k, cap, cur, rfl, h1, h2, h3, h4, h5, h6⟩
  · cases hg
  · cases hg
    refine .inr ⟨k, cap, cur.setIfInBounds off u, rfl, h1, heap_setCell_same w k off cur e u h2, h3, h4, by simp [h5], ?_⟩
    rw [Array.toList_setIfInBounds, ← h6, List.take_set]
theorem flat5_set : ∀ (ss : List N5) (t : Nat) (h : t < ss.length) (a : Option Addr) (n c : Nat), (ss.flatMap c5).set (t * 5 + 3) (.slice a n c) = (ss.set t { ss[t] with ka := a, kn := n, kc := c }).flatMap c5
  | s :: r, 0, _, a, n, c => by
    rw [List.flatMap_cons, List.set_cons_zero, List.flatMap_cons]
    rfl
  | s :: r, t + 1, h, a, n, c => by
    rw [List.flatMap_cons, List.set_cons_succ, List.flatMap_cons]
    have ih := flat5_set r t (by simpa using h) a n c
    have e1 : (t + 1) * 5 + 3 = (c5 s).length + (t * 5 + 3) := by simp [c5]; omega
    rw [e1, List.set_append_right _ _ (by omega), Nat.add_sub_cancel_left, ih]
    rfl
/-- An element of a row of one's own gets another list of Kids. -/
theorem LOwn.kids {B b g : Nat} {w : World} {v : Value} {L : List El} (h : LOwn B w b v L) {t : Nat} (ht : t < L.length) (hg : v.ownBlock = some g) {a : Option Addr} {n c : Nat} {ks : List Int} (hr : RowAt w 1 a n c (intsV ks)) (hb : ∀ x, a = some x → x.block ≠ b) (hag : ∀ x, a = some x → x.block ≠ g) : LOwn B (w.setCell ⟨g, t * 5 + 3, none⟩ (.slice a n c)) b v (L.set t { L[t] with ks := ks }) := by
  obtain ⟨ss, h1, h2, h3, h4, h5⟩ := h
  have hts : t < ss.length := by omega
  have hsz : w.heap.size ≤ (w.setCell ⟨g, t * 5 + 3, none⟩ (.slice a n c)).heap.size := by simp
  have hbl : ∀ k, k < w.heap.size → k ≠ g → (w.setCell ⟨g, t * 5 + 3, none⟩ (.slice a n c)).heap[k]? = w.heap[k]? := fun k _ hk => Below.heap_setCell w ⟨g, t * 5 + 3, none⟩ _ k hk
  have hoff : ∀ s ∈ ss.set t { ss[t] with ka := a, kn := n, kc := c }, Off b s ∧ Off g s := fun s hs => by
    rcases List.mem_or_eq_of_mem_set hs with hm | rfl
    · exact ⟨(h4 s hm).1, (h4 s hm).2 g hg⟩
    · have := h4 _ (List.getElem_mem hts)
      exact ⟨⟨hb, this.1.2⟩, ⟨hag, (this.2 g hg).2⟩⟩
  refine ⟨ss.set t { ss[t] with ka := a, kn := n, kc := c }, ?_, by simp [h2], fun i hi hi' => ?_, fun s hs => ⟨(hoff s hs).1, fun g' hg' => ?_⟩, h5⟩
  · rw [List.length_set, ← flat5_set ss t hts]
    exact ownsRow_set h1 hg _ _
  · have hel : ElAt w ((ss.set t { ss[t] with ka := a, kn := n, kc := c })[i]) ((L.set t { L[t] with ks := ks })[i]) := by
      by_cases hit : t = i
      · subst hit
        rw [List.getElem_set_self, List.getElem_set_self]
        have := h3 t ht hts
        exact ⟨this.1, this.2.1, this.2.2.1, hr, this.2.2.2.2⟩
      · rw [List.getElem_set_ne hit, List.getElem_set_ne hit]
        exact h3 i (by simpa using hi) (by simpa using hi')
    have := (hoff _ (List.getElem_mem hi')).2
    exact hel.stay (P := fun k => k ≠ g) hsz hbl ⟨this.1, this.2⟩
  · have : g' = g := Option.some.inj (hg'.symm.trans hg)
    subst this
    exact (hoff s hs).2
/-- The tree's own number. -/
theorem ROwn.next {B b : Nat} {w : World} {L : List El} {nx : Int} (h : ROwn B w b L nx) (nx' : Int) : ROwn B (w.setCell ⟨b, 1, none⟩ (.int .i64 nx')) b L nx' := by
  obtain ⟨hB, v, hd, ss, h1, h2, h3, h4, h5⟩ := h
  have hsz : w.heap.size ≤ (w.setCell ⟨b, 1, none⟩ (.int .i64 nx')).heap.size := by simp
  have hbl : ∀ k, k < w.heap.size → k ≠ b → (w.setCell ⟨b, 1, none⟩ (.int .i64 nx')).heap[k]? = w.heap[k]? := fun k _ hk => Below.heap_setCell w ⟨b, 1, none⟩ _ k hk
  refine ⟨hB, v, heap_setCell_same w b 1 _ 126 _ hd, ss, ownsRow_keep h1 (fun g hg hv => hbl g hg (fun e => h5 (by rw [← e]; exact hv))), h2, fun i hi hi' => ?_, h4, h5⟩
  have := (h4 _ (List.getElem_mem hi')).1
  exact (h3 i hi hi').stay (P := fun k => k ≠ b) hsz hbl ⟨this.1, this.2⟩

end Go.Proofs.YtdiljkmlneeboaaGreat.N
