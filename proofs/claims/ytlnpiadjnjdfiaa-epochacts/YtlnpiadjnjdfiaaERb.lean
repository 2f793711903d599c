/- The document's New, slots, Pin, Unpin. -/
import Derived.Test.YtlnpiadjnjdfiaaERa
import Derived.Test.YtlnpiadjnjdfiaaESn
namespace Go.Proofs.Ytlnpiadjnjdfiaa.E
open Go.RowKit
set_option maxRecDepth 100000

theorem made_zeros (n : Nat) : (madeCells #[Value.int .i64 0] n).toList = (List.replicate n (0 : Int)).map iv := by
  apply List.ext_getElem?
  intro j
  by_cases h : j < n
  · simp [madeCells, Nat.mod_one, h, iv]
  · simp [madeCells, Nat.mod_one, h, iv]
theorem rnew_bad (w : World) (n : Int) (h : n < 1 ∨ n > 8) : Calls Try.prog 9 #[.int .i64 n] w fun e w' => e = .returned (.pointer none) ∧ w' = w := by
  by_cases h1 : n < 1
  · go_enter Try.func9, Try.ntmps9
    go_wp2
    go_ret
    exact ⟨rfl, rfl⟩
  · have h2 : n > 8 := by omega
    go_enter Try.func9, Try.ntmps9
    go_wp2
    go_ret
    exact ⟨rfl, rfl⟩
def RNew (w : World) (n : Nat) (e : Ending) (w' : World) : Prop := ∃ b us, e = .returned (.pointer (some ⟨b, 0, none⟩)) ∧ RS w' b 1 us (List.replicate n 0) (.slice none 0 0) [] ∧ Below w.heap.size w w' ∧ w.heap.size ≤ b ∧ ∀ g, us.ownBlock = some g → w.heap.size ≤ g
set_option maxHeartbeats 1000000 in
theorem rnew_any (w : World) (n : Nat) (h1 : 1 ≤ n) (h8 : n ≤ 8) : Calls Try.prog 9 #[.int .i64 (n : Int)] w (RNew w n) := by
  obtain ⟨i3, hi3, hz3, hz31, hz32⟩ := info_parts Try.info3s
  have hn1 : ¬ (n : Int) < 1 := by omega
  have hn2 : ¬ (n : Int) > 8 := by omega
  go_enter Try.func9, Try.ntmps9
  go_wp2_with (at_make; refine wpList_make_full _ rfl _ _ 40 rfl w.heap.size 3 i3 (.int .i64 0) 1 Try.underlying40 hi3 hz3 hz31 .i64 .i64 _ _ n rfl rfl rfl rfl (by rw [hz32]; omega) (by unfold maxLen; omega) (Nat.le_refl _) ?_; intro w2 hg2 hgr2; have HG2 := hid_mk hg2; have HGR2 := hid_mk hgr2; clear hg2 hgr2)
  have hb : Below w.heap.size w w2 := (Below.refl _ _).grown HGR2.out (Nat.le_refl _) (by simp)
  have hg := HG2.out
  rw [Nat.mul_one, show (Value.int .i64 0).cells = #[Value.int .i64 0] from rfl, made_zeros] at hg
  have hg0 : w2.ownsRow 0 3 1 (.slice (some ⟨w.heap.size, 0, none⟩) n n) n ((List.replicate n (0 : Int)).map iv) := by
    obtain ⟨q1, q2⟩ := hg
    refine ⟨q1, ?_⟩
    rcases q2 with h | ⟨g, cap, cur, e, _, r⟩
    · exact .inl h
    · exact .inr ⟨g, cap, cur, e, Nat.zero_le _, r⟩
  have hlt : w.heap.size < w2.heap.size := own_lt hg0 rfl
  refine bodyPost_ret (v := .pointer (some ⟨w2.heap.size, 0, none⟩)) (by simp [results, Try.results9, go_sem]) rfl ⟨_, _, rfl, ⟨heap_alloc_last w2 _, ?_, own_nil _ _ _ _, ?_, by simp [Value.ownBlock]⟩, hb.alloc (by omega) _, by omega, fun g e => by cases e; exact Nat.le_refl _⟩
  · rw [List.length_replicate]
    exact ownsRow_below hg0 ((Below.refl _ _).alloc (Nat.le_refl _) _)
  · intro e
    have e : w.heap.size = w2.heap.size := Option.some.inj e
    omega

theorem row_at {w : World} {B n g c : Nat} {e : TypeId} {xs : List Value} (h : w.ownsRow B e 1 (.slice (some ⟨g, 0, none⟩) n c) n xs) : ∀ j u, xs[j]? = some u → w.cell? ((⟨g, 0, none⟩ : Addr).add j) = some u := fun j u hj => h.cells (g := g) rfl j u hj
/-- New memory that holds these slots. -/
def RSl (w : World) (S : List Int) (e : Ending) (w' : World) : Prop := ∃ u, e = .returned u ∧ w'.ownsRow 0 3 1 u S.length (S.map iv) ∧ Below w.heap.size w w' ∧ ∀ g, u.ownBlock = some g → w.heap.size ≤ g
set_option maxHeartbeats 2000000 in
theorem rslots_any {w : World} {b : Nat} {now : Int} {us ul : Value} {S : List Int} {L : List It} (h : RS w b now us S ul L) (h8 : S.length ≤ 8) {i : Nat} (hi : i < S.length) (x : Int) : Calls Try.prog 35 #[.pointer (some ⟨b, 0, none⟩), .int .i64 (i : Int), .int .i64 x] w (RSl w (S.set i x)) := by
  obtain ⟨i3, hi3, hz3, hz31, hz32⟩ := info_parts Try.info3s
  obtain ⟨c0, c1, c2', hf⟩ := h.cells
  obtain ⟨g, c, rfl, hc1, hc2⟩ := row_form h.rs (by omega)
  unfold maxLen at hc2
  have HRS := hid_mk h.rs
  have HSL : Hid ((S.set i x).length = S.length) := List.length_set
  have hb1 : Below w.heap.size w (w.alloc (.cells #[] 3)) := (Below.refl _ _).alloc (Nat.le_refl _) _
  have HR1 := hid_mk (ownsRow_below h.rs hb1)
  have c1a := (h.keep hb1).cells.2.1
  have hbl := h.lt
  have hii : (0 : Int) ≤ (i : Int) ∧ (i : Int) < (S.length : Int) := ⟨by omega, by omega⟩
  clear h c0 c2'
  go_enter Try.func35, Try.ntmps35
  go_wp2_with (at_builtin; refine wpList_append_own_at _ rfl _ _ 40 rfl w.heap.size 3 i3 (.int .i64 0) 1 8 Try.underlying40 hi3 hz3 hz31 hz32 rfl (by decide) _ _ _ rfl (own_empty w 3 1) ⟨g, 0, none⟩ S.length c (S.map iv) rfl (by simp) (row_at HR1.out) (by intro u hu; obtain ⟨z, _, rfl⟩ := List.mem_map.1 hu; rfl) (by unfold maxLen; omega) (by omega) (by simp) ?_; intro u6 w4 hu6 hg6 _ hat6; rw [List.nil_append, Nat.zero_add] at hu6; obtain ⟨g6, c6, rfl, hc61, hc62⟩ := row_form hu6 (by omega); unfold maxLen at hc62; obtain ⟨hcc, hff⟩ := row_cell hu6 (k := i) (x := .int .i64 S[i]) (by simp [hi, iv]); have HU6 := hid_mk hu6; have HG6 : Hid ((w.alloc (.cells #[] 3)).grownBy w4 (some w.heap.size)) := hg6; clear hu6 hg6 hat6)
  have hb4 : Below w.heap.size w w4 := hb1.grown HG6.out hb1.size (fun k e => by cases e; exact Nat.le_refl _)
  have hg6 := (HU6.out.lt g6 rfl).1
  have hs := ownsRow_set HU6.out (g := g6) rfl i (.int .i64 x)
  refine bodyPost_ret (v := .slice (some ⟨g6, 0, none⟩) S.length c6) (by simp [results, Try.results35, go_sem]) rfl ⟨_, rfl, ?_, hb4.setCell (p := ⟨g6, i, none⟩) hg6 _, fun k e => by cases e; exact hg6⟩
  rw [HSL.out, List.map_set]
  obtain ⟨_, q2⟩ := hs
  refine ⟨by simp, ?_⟩
  rcases q2 with h | ⟨g', cap, cur, e, _, r⟩
  · exact .inl h
  · exact .inr ⟨g', cap, cur, e, Nat.zero_le _, r⟩

/-- The slots are put. -/
theorem RS.slots {w w1 : World} {b : Nat} {now : Int} {us ul u : Value} {S S' : List Int} {L : List It} (h : RS w b now us S ul L) (hb : Below w.heap.size w w1) (hu : w1.ownsRow 0 3 1 u S'.length (S'.map iv)) (hg : ∀ g, u.ownBlock = some g → w.heap.size ≤ g) : RS (w1.setCell ⟨b, 1, none⟩ u) b now u S' ul L ∧ Kx b b w (w1.setCell ⟨b, 1, none⟩ u) := by
  have h1 := h.keep hb
  have hl := h.lt
  have hub : u.ownBlock ≠ some b := fun e => by have := hg b e; omega
  refine ⟨⟨heap_setCell_same w1 b 1 _ 46 _ h1.box, ownsRow_keep hu (fun g _ e => Below.heap_setCell w1 ⟨b, 1, none⟩ _ g (fun e2 => hub (by rw [e, e2]))), ownsRow_keep h1.rl (fun g _ e => Below.heap_setCell w1 ⟨b, 1, none⟩ _ g (fun e2 => h.dl (by rw [e, e2]))), hub, h.dl⟩, (Kx.of_below hb).set 1 _⟩
def RPin (w : World) (b : Nat) (now : Int) (us : Value) (S : List Int) (ul : Value) (L : List It) (e : Ending) (w' : World) : Prop := (∃ k u, FreeAt S.length S k ∧ e = .returned (.tuple #[.int .i64 (k : Int), .int .i64 0]) ∧ RS w' b now u (S.set k now) ul L ∧ Kx b b w w' ∧ ∀ g, u.ownBlock = some g → w.heap.size ≤ g) ∨ (NoFree S.length S ∧ e = .returned (.tuple #[.int .i64 0, .int .i64 6]) ∧ RS w' b now us S ul L ∧ w' = w)
set_option maxHeartbeats 2000000 in
theorem rpin_any {w : World} {b : Nat} {now : Int} {us ul : Value} {S : List Int} {L : List It} (h : RS w b now us S ul L) (h8 : S.length ≤ 8) : Calls Try.prog 14 #[.pointer (some ⟨b, 0, none⟩)] w (RPin w b now us S ul L) := by
  obtain ⟨c0, c1, c2', hf⟩ := h.cells
  have H := hid_mk h
  obtain ⟨ua, uc, rfl⟩ := own_slice h.rs
  have HN : Hid (∀ (k : Nat), k < S.length → ∃ s g, S[k]? = some s ∧ ua = some ⟨g, 0, none⟩ ∧ S.length ≤ uc ∧ uc ≤ 9223372036854775807 ∧ w.cell? ⟨g, k, none⟩ = some (.int .i64 s)) := fun k hk => by
    obtain ⟨g, c, he, hc1, hc2, hcc, _, _⟩ := own_cell H.out.rs (k := k) (x := .int .i64 S[k]) (by simp [hk, iv])
    cases he
    exact ⟨S[k], g, List.getElem?_eq_getElem hk, rfl, hc1, hc2, hcc⟩
  have hbl := h.lt
  have h8' := h8
  clear h c2'
  go_enter Try.func14, Try.ntmps14
  go_wp2
  go_loopw [11] (fun p wr => ∃ k : Nat, k ≤ S.length ∧ p = .int .i64 (k : Int) ∧ Hid (NoFree k S) ∧ wr = w) (fun p _ => S.length + 1 - (intOf p).toNat)
  case atStart => exact ⟨0, by omega, rfl, fun i s hi => by omega, rfl⟩
  case round =>
    obtain ⟨k, hk, rfl, HNF, rfl⟩ := hrel
    by_cases hkn : k < S.length
    · have hd : (k : Int) < (S.length : Int) := by omega
      obtain ⟨s, g, hs, rfl, hcl, hcm, hcc⟩ := HN.out k hkn
      have HSK := hid_mk hs
      clear hs
      by_cases h0 : s = 0
      · subst h0
        have hsl := hid_mk (rslots_any H.out h8 hkn now)
        go_wp2_with (go_at_call 35; fail)
        refine hsl.out.mono ?_
        rintro e w3 ⟨u, rfl, hu, hb, hg⟩
        obtain ⟨ga, gc, rfl⟩ := own_slice hu
        have h3 := (H.out.keep hb).cells
        have d1 := h3.2.1
        have df := h3.2.2.2 1
        have HP := hid_mk (H.out.slots hb hu hg)
        have HG := hid_mk hg
        rw [List.length_set] at HP HG
        clear h3 hu hb hg hsl
        go_wp2
        exact bodyPost_ret (v := .tuple #[.int .i64 (k : Int), .int .i64 0]) (by simp [results, Try.results14, go_sem]) rfl (Or.inl ⟨k, _, ⟨hkn, HSK.out, HNF.out⟩, rfl, HP.out.1, HP.out.2, HG.out⟩)
      · have h0' : (s == 0) = false := by rw [beq_eq_false_iff_ne]; exact h0
        have HNF2 : Hid (NoFree (k + 1) S) := fun i s' hi hs' => by
          by_cases e : i = k
          · subst e
            rw [HSK.out] at hs'
            cases hs'
            exact h0
          · exact HNF.out i s' (by omega) hs'
        go_wp2
        exact ⟨⟨k + 1, by omega, by simp, HNF2, trivial⟩, by simp [intOf]; omega⟩
    · have hke : k = S.length := by omega
      have hd : ¬ (k : Int) < (S.length : Int) := by omega
      go_wp2
      exact bodyPost_ret (v := .tuple #[.int .i64 0, .int .i64 6]) (by simp [results, Try.results14, go_sem]) rfl (Or.inr ⟨by rw [← hke]; exact HNF.out, rfl, H.out, rfl⟩)
def RUnp (w : World) (b : Nat) (now : Int) (us : Value) (S : List Int) (ul : Value) (L : List It) (i : Int) (e : Ending) (w' : World) : Prop := if pinZ S.length S i = 0 then e = .returned (.int .i64 3) ∧ RS w' b now us S ul L ∧ w' = w else e = .returned (.int .i64 0) ∧ ∃ u, RS w' b now u (S.set i.toNat 0) ul L ∧ Kx b b w w' ∧ ∀ g, u.ownBlock = some g → w.heap.size ≤ g
set_option maxHeartbeats 2000000 in
theorem runpin_any {w : World} {b : Nat} {now : Int} {us ul : Value} {S : List Int} {L : List It} (h : RS w b now us S ul L) (h8 : S.length ≤ 8) (i : Int) : Calls Try.prog 16 #[.pointer (some ⟨b, 0, none⟩), .int .i64 i] w (RUnp w b now us S ul L i) := by
  have hp := hid_mk (rpinned_any h h8 i)
  have H := hid_mk h
  by_cases h0 : pinZ S.length S i = 0
  · have HP : Hid (RUnp w b now us S ul L i (.returned (.int .i64 3)) w) := by
      show RUnp _ _ _ _ _ _ _ _ _ _
      unfold RUnp
      rw [if_pos h0]
      exact ⟨rfl, H.out, rfl⟩
    rw [h0] at hp
    clear h
    go_enter Try.func16, Try.ntmps16
    go_wp2_with (go_at_call 27; refine hp.out.mono ?_; rintro e w' ⟨rfl, hw⟩; rw [hw]; clear hw w')
    exact bodyPost_ret (v := .int .i64 3) (by simp [results, Try.results16, go_sem]) rfl HP.out
  · have hin : inP S.length i = true := by
      cases hq : inP S.length i
      · exfalso
        apply h0
        unfold pinZ
        rw [hq]
        rfl
      · rfl
    have hin2 : 0 ≤ i ∧ i < (S.length : Int) := of_decide_eq_true hin
    obtain ⟨k, rfl⟩ : ∃ k : Nat, i = (k : Int) := ⟨i.toNat, by omega⟩
    have hkl : k < S.length := by omega
    have hsl := hid_mk (rslots_any h h8 hkl 0)
    have hz0 : (pinZ S.length S k == 0) = false := by rw [beq_eq_false_iff_ne]; exact h0
    have HZ0 := hid_mk h0
    generalize hzz : pinZ S.length S k = z at *
    have HZZ := hid_mk hzz
    clear h hzz h0 hin
    go_enter Try.func16, Try.ntmps16
    go_wp2_with (go_at_call 27; refine hp.out.mono ?_; rintro e w' ⟨rfl, hw⟩; rw [hw]; clear hw w')
    refine hsl.out.mono ?_
    rintro e w3 ⟨u, rfl, hu, hb, hg⟩
    obtain ⟨ga, gc, rfl⟩ := own_slice hu
    have h3 := (H.out.keep hb).cells
    have d1 := h3.2.1
    have df := h3.2.2.2 1
    have HP := hid_mk (H.out.slots hb hu hg)
    have HG := hid_mk hg
    rw [List.length_set] at HP HG
    clear h3 hu hb hg hsl hp
    go_wp2
    refine bodyPost_ret (v := .int .i64 0) (by simp [results, Try.results16, go_sem]) rfl ?_
    unfold RUnp
    rw [HZZ.out, if_neg HZ0.out, Int.toNat_natCast]
    exact ⟨rfl, _, HP.out.1, HP.out.2, HG.out⟩
end Go.Proofs.Ytlnpiadjnjdfiaa.E
