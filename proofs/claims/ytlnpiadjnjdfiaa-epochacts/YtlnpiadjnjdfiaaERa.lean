/- The document's Epochs: in memory; Publish, Pinned, Min, Held. -/
import Derived.Test.YtlnpiadjnjdfiaaESm
namespace Go.Proofs.Ytlnpiadjnjdfiaa.E
open Go.RowKit
set_option maxRecDepth 100000

/-- The document's Epochs: block b; the epoch, the slots, what waits. -/
structure RS (w : World) (b : Nat) (now : Int) (us : Value) (S : List Int) (ul : Value) (L : List It) : Prop where
  box : w.heap[b]? = some (.cells #[.int .i64 now, us, ul] 46 (0, 0))
  rs : w.ownsRow 0 3 1 us S.length (S.map iv)
  rl : w.ownsRow 0 49 2 ul L.length (L.flatMap c2)
  ds : us.ownBlock ≠ some b
  dl : ul.ownBlock ≠ some b
theorem RS.lt {w : World} {b : Nat} {now : Int} {us ul : Value} {S : List Int} {L : List It} (h : RS w b now us S ul L) : b < w.heap.size := (Array.getElem?_eq_some_iff.1 h.box).1
theorem RS.cells {w : World} {b : Nat} {now : Int} {us ul : Value} {S : List Int} {L : List It} (h : RS w b now us S ul L) : w.cell? ⟨b, 0, none⟩ = some (.int .i64 now) ∧ w.cell? ⟨b, 1, none⟩ = some us ∧ w.cell? ⟨b, 2, none⟩ = some ul ∧ ∀ o, w.frozen? ⟨b, o, none⟩ = false := by
  have hb := h.box
  refine ⟨?_, ?_, ?_, fun o => ?_⟩
  · simp [World.cell?, hb]
  · simp [World.cell?, hb]
  · simp [World.cell?, hb]
  · simp [World.frozen?, hb]
theorem own_lt {w : World} {B n : Nat} {e : TypeId} {s : Nat} {u : Value} {xs : List Value} (h : w.ownsRow B e s u n xs) {g : Nat} (hg : u.ownBlock = some g) : g < w.heap.size := (h.lt g hg).2
theorem RS.keep {w w' : World} {b : Nat} {now : Int} {us ul : Value} {S : List Int} {L : List It} (h : RS w b now us S ul L) (hb : Below w.heap.size w w') : RS w' b now us S ul L :=
  ⟨(hb.block b h.lt).trans h.box, ownsRow_below h.rs hb, ownsRow_below h.rl hb, h.ds, h.dl⟩
set_option maxHeartbeats 1000000 in
theorem rpublish_any {w : World} {b : Nat} {now : Int} {us ul : Value} {S : List Int} {L : List It} (h : RS w b now us S ul L) (h0 : 0 ≤ now) (h1 : now ≤ 1000000) : Calls Try.prog 12 #[.pointer (some ⟨b, 0, none⟩)] w fun e w' => e = .returned (.int .i64 (now + 1)) ∧ RS w' b (now + 1) us S ul L ∧ Kx b b w w' := by
  obtain ⟨c0, c1, c2', hf⟩ := h.cells
  have HE : Hid (RS (w.setCell ⟨b, 0, none⟩ (.int .i64 (now + 1))) b (now + 1) us S ul L ∧ Kx b b w (w.setCell ⟨b, 0, none⟩ (.int .i64 (now + 1)))) :=
    ⟨⟨heap_setCell_same w b 0 _ 46 _ h.box, ownsRow_keep h.rs (fun g _ e => Below.heap_setCell w ⟨b, 0, none⟩ _ g (fun e2 => h.ds (by rw [e, e2]))), ownsRow_keep h.rl (fun g _ e => Below.heap_setCell w ⟨b, 0, none⟩ _ g (fun e2 => h.dl (by rw [e, e2]))), h.ds, h.dl⟩, (Kx.refl _ _ _).set 0 _⟩
  clear h c1 c2'
  go_enter Try.func12, Try.ntmps12
  go_wp2
  go_ret
  exact ⟨rfl, HE.out⟩

set_option maxHeartbeats 1000000 in
theorem rpinned_any {w : World} {b : Nat} {now : Int} {us ul : Value} {S : List Int} {L : List It} (h : RS w b now us S ul L) (_ : S.length ≤ 8) (i : Int) : Calls Try.prog 27 #[.pointer (some ⟨b, 0, none⟩), .int .i64 i] w fun e w' => e = .returned (.int .i64 (pinZ S.length S i)) ∧ w' = w := by
  obtain ⟨c0, c1, c2', hf⟩ := h.cells
  have HRS := hid_mk h.rs
  obtain ⟨ua, uc, rfl⟩ := own_slice h.rs
  by_cases hi0 : i < 0
  · have HR : Hid (pinZ S.length S i = 0) := by show _ = _; unfold pinZ; rw [if_neg (by rw [show inP S.length i = false from decide_eq_false (by omega)]; simp)]
    generalize pinZ S.length S i = r at *
    clear h c0 c2'
    go_enter Try.func27, Try.ntmps27
    go_wp2
    go_ret
    exact ⟨by rw [HR.out]; rfl, rfl⟩
  · by_cases hi1 : i ≥ (S.length : Int)
    · have HR : Hid (pinZ S.length S i = 0) := by show _ = _; unfold pinZ; rw [if_neg (by rw [show inP S.length i = false from decide_eq_false (by omega)]; simp)]
      generalize pinZ S.length S i = r at *
      clear h c0 c2'
      go_enter Try.func27, Try.ntmps27
      go_wp2
      go_ret
      exact ⟨by rw [HR.out]; rfl, rfl⟩
    · obtain ⟨k, rfl⟩ : ∃ k : Nat, i = (k : Int) := ⟨i.toNat, by omega⟩
      have hk : k < S.length := by omega
      have HR : Hid (pinZ S.length S k = S[k]) := by
        show _ = _
        unfold pinZ
        rw [if_pos (show inP S.length k = true from decide_eq_true ⟨by omega, by omega⟩), Int.toNat_natCast, List.getD_eq_getElem?_getD, List.getElem?_eq_getElem hk]
        rfl
      obtain ⟨g, c, he, hc1, hc2, hcc, _, _⟩ := own_cell HRS.out (k := k) (x := .int .i64 S[k]) (by simp [hk, iv])
      cases he
      unfold maxLen at hc2
      generalize pinZ S.length S k = r at *
      generalize S[k] = s at *
      have hki : (k : Int) < (S.length : Int) := by omega
      generalize S.length = n at *
      clear h c0 c2' HRS
      go_enter Try.func27, Try.ntmps27
      go_wp2
      go_ret
      exact ⟨by rw [HR.out]; rfl, rfl⟩

/-- The least that is held; 0: none is. -/
def mz (p : Int × Bool) : Int := if p.2 = true then p.1 else 0
theorem mz_step (l : List Int) (e : Int) : (if e > 0 ∧ (mz (leastZ l) = 0 ∨ e < mz (leastZ l)) then e else mz (leastZ l)) = mz (leS (leastZ l) e) := by
  unfold leS
  rcases least_spec l with ⟨h1, _⟩ | ⟨h1, _, h3, _⟩
  · have hm : mz (leastZ l) = 0 := by unfold mz; rw [if_neg (by rw [h1]; simp)]
    rw [hm]
    by_cases h0 : e > 0
    · rw [if_pos ⟨h0, .inl rfl⟩, if_pos ⟨h0, .inl h1⟩]
      rfl
    · rw [if_neg (fun h => h0 h.1), if_neg (fun h => h0 h.1)]
      exact hm.symm
  · have hm : mz (leastZ l) = (leastZ l).1 := by unfold mz; rw [if_pos h1]
    rw [hm]
    by_cases h0 : e > 0 ∧ e < (leastZ l).1
    · rw [if_pos ⟨h0.1, .inr h0.2⟩, if_pos ⟨h0.1, .inr h0.2⟩]
      rfl
    · rw [if_neg (by rintro ⟨ha, hb | hb⟩; exact absurd hb (by omega); exact h0 ⟨ha, hb⟩), if_neg (by rintro ⟨ha, hb | hb⟩; rw [h1] at hb; cases hb; exact h0 ⟨ha, hb⟩)]
      exact hm.symm
/-- The document's least. -/
def rminZ (S : List Int) (now : Int) : Int := if (leastZ S).2 = true then (leastZ S).1 else now
theorem rmin_mz (S : List Int) (now : Int) : rminZ S now = if mz (leastZ S) = 0 then now else mz (leastZ S) := by
  unfold rminZ mz
  rcases least_spec S with ⟨h1, _⟩ | ⟨h1, _, h3, _⟩
  · rw [h1]; simp
  · rw [if_pos h1, if_pos h1, if_neg (by omega)]

set_option maxHeartbeats 2000000 in
theorem rmin_any {w : World} {b : Nat} {now : Int} {us ul : Value} {S : List Int} {L : List It} (h : RS w b now us S ul L) (_ : S.length ≤ 8) : Calls Try.prog 25 #[.pointer (some ⟨b, 0, none⟩)] w fun e w' => e = .returned (.int .i64 (rminZ S now)) ∧ w' = w := by
  obtain ⟨c0, c1, c2', hf⟩ := h.cells
  have HRS := hid_mk h.rs
  obtain ⟨ua, uc, rfl⟩ := own_slice h.rs
  have HMZ := hid_mk (rmin_mz S now)
  generalize rminZ S now = r at *
  have HN : Hid (∀ (k : Nat), k < S.length → ∃ s g c, S[k]? = some s ∧ ua = some ⟨g, 0, none⟩ ∧ uc = c ∧ S.length ≤ c ∧ c ≤ 9223372036854775807 ∧ w.cell? ⟨g, k, none⟩ = some (.int .i64 s) ∧ mz (leastZ (S.take (k + 1))) = (if s > 0 ∧ (mz (leastZ (S.take k)) = 0 ∨ s < mz (leastZ (S.take k))) then s else mz (leastZ (S.take k)))) := fun k hk => by
    obtain ⟨g, c, he, hc1, hc2, hcc, _, _⟩ := own_cell HRS.out (k := k) (x := .int .i64 S[k]) (by simp [hk, iv])
    cases he
    refine ⟨S[k], g, _, List.getElem?_eq_getElem hk, rfl, rfl, hc1, hc2, hcc, ?_⟩
    rw [mz_step, List.take_add_one, List.getElem?_eq_getElem hk]
    unfold leastZ
    rw [List.foldl_append]
    rfl
  clear h c2' HRS
  go_enter Try.func25, Try.ntmps25
  go_wp2
  go_loopw [11, 3] (fun p q wr => ∃ k : Nat, k ≤ S.length ∧ p = .int .i64 (k : Int) ∧ q = .int .i64 (mz (leastZ (S.take k))) ∧ wr = w) (fun p _ _ => S.length + 1 - (intOf p).toNat)
  case atStart => exact ⟨0, by omega, rfl, rfl, rfl⟩
  case round =>
    obtain ⟨k, hk, rfl, rfl, rfl⟩ := hrel
    by_cases hkn : k < S.length
    · have hd : (k : Int) < (S.length : Int) := by omega
      obtain ⟨s, g, c, hs, rfl, rfl, hcl, hcm, hcc, hst⟩ := HN.out k hkn
      have HST := hid_mk hst
      obtain ⟨z, hz⟩ : ∃ z, z = mz (leastZ (S.take k)) := ⟨_, rfl⟩
      rw [← hz] at HST ⊢
      clear hst hz hs
      by_cases h0 : s > 0
      · by_cases hz0 : z = 0
        · subst hz0
          go_wp2
          refine ⟨⟨k + 1, by omega, by simp, by rw [HST.out, if_pos ⟨h0, .inl rfl⟩], trivial⟩, by simp [intOf]; omega⟩
        · have hz0' : (z == 0) = false := by rw [beq_eq_false_iff_ne]; exact hz0
          by_cases hlt : s < z
          · go_wp2
            refine ⟨⟨k + 1, by omega, by simp, by rw [HST.out, if_pos ⟨h0, .inr hlt⟩], trivial⟩, by simp [intOf]; omega⟩
          · go_wp2
            refine ⟨⟨k + 1, by omega, by simp, by rw [HST.out, if_neg (by rintro ⟨_, h | h⟩; exact hz0 h; omega)], trivial⟩, by simp [intOf]; omega⟩
      · go_wp2
        refine ⟨⟨k + 1, by omega, by simp, by rw [HST.out, if_neg (by rintro ⟨h, _⟩; omega)], trivial⟩, by simp [intOf]; omega⟩
    · have hke : k = S.length := by omega
      have hd : ¬ (k : Int) < (S.length : Int) := by omega
      rw [hke, List.take_length]
      generalize mz (leastZ S) = z at *
      by_cases hz0 : z = 0
      · subst hz0
        have HR : Hid (r = now) := by have := HMZ.out; rw [if_pos rfl] at this; exact this
        rw [hke] at hd
        go_wp2
        go_ret
        exact ⟨by rw [HR.out]; rfl, rfl⟩
      · have HR : Hid (r = z) := by have := HMZ.out; rw [if_neg hz0] at this; exact this
        have hz0' : (z == 0) = false := by rw [beq_eq_false_iff_ne]; exact hz0
        rw [hke] at hd
        go_wp2
        go_ret
        exact ⟨by rw [HR.out]; rfl, rfl⟩

def heldZ (S : List Int) : Bool := S.any fun s => decide (s > 0)
theorem held_least (S : List Int) : heldZ S = (leastZ S).2 := by
  unfold heldZ
  rcases least_spec S with ⟨h1, h2⟩ | ⟨h1, h2, h3, _⟩
  · rw [h1, List.any_eq_false]
    intro s hs
    have := h2 s hs
    simp; omega
  · rw [h1, List.any_eq_true]
    exact ⟨_, h2, by simpa using h3⟩
set_option maxHeartbeats 2000000 in
theorem rheld_any {w : World} {b : Nat} {now : Int} {us ul : Value} {S : List Int} {L : List It} (h : RS w b now us S ul L) : Calls Try.prog 41 #[.pointer (some ⟨b, 0, none⟩)] w fun e w' => e = .returned (.bool (heldZ S)) ∧ w' = w := by
  obtain ⟨c0, c1, c2', hf⟩ := h.cells
  have HRS := hid_mk h.rs
  obtain ⟨ua, uc, rfl⟩ := own_slice h.rs
  obtain ⟨r, hr⟩ : ∃ r, r = heldZ S := ⟨_, rfl⟩
  have HR := hid_mk hr
  rw [← hr]
  clear hr
  have HN : Hid (∀ (k : Nat), k < S.length → ∃ s g c, S[k]? = some s ∧ ua = some ⟨g, 0, none⟩ ∧ uc = c ∧ S.length ≤ c ∧ c ≤ 9223372036854775807 ∧ w.cell? ⟨g, k, none⟩ = some (.int .i64 s)) := fun k hk => by
    obtain ⟨g, c, he, hc1, hc2, hcc, _, _⟩ := own_cell HRS.out (k := k) (x := .int .i64 S[k]) (by simp [hk, iv])
    cases he
    exact ⟨S[k], g, _, List.getElem?_eq_getElem hk, rfl, rfl, hc1, hc2, hcc⟩
  clear h c0 c2' HRS
  go_enter Try.func41, Try.ntmps41
  go_wp2
  go_loopw [10] (fun p wr => ∃ k : Nat, k ≤ S.length ∧ p = .int .i64 (k : Int) ∧ Hid (∀ (i : Nat) (s : Int), i < k → S[i]? = some s → ¬ s > 0) ∧ wr = w) (fun p _ => S.length + 1 - (intOf p).toNat)
  case atStart => exact ⟨0, by omega, rfl, fun i s hi => by omega, rfl⟩
  case round =>
    obtain ⟨k, hk, rfl, HNO, rfl⟩ := hrel
    by_cases hkn : k < S.length
    · have hd : (k : Int) < (S.length : Int) := by omega
      obtain ⟨s, g, c, hs, rfl, rfl, hcl, hcm, hcc⟩ := HN.out k hkn
      have HSK := hid_mk hs
      clear hs
      by_cases h0 : s > 0
      · have HRT : Hid (r = true) := by
          show _ = _
          rw [HR.out]
          unfold heldZ
          rw [List.any_eq_true]
          exact ⟨s, List.mem_of_getElem? HSK.out, by simpa using h0⟩
        go_wp2
        go_ret
        exact ⟨by rw [HRT.out]; rfl, rfl⟩
      · have HNO2 : Hid (∀ (i : Nat) (x : Int), i < k + 1 → S[i]? = some x → ¬ x > 0) := fun i x hi hx => by
          by_cases e : i = k
          · subst e
            rw [HSK.out] at hx
            cases hx
            exact h0
          · exact HNO.out i x (by omega) hx
        go_wp2
        exact ⟨⟨k + 1, by omega, by simp, HNO2, trivial⟩, by simp [intOf]; omega⟩
    · have hke : k = S.length := by omega
      have HRT : Hid (r = false) := by
        show _ = _
        rw [HR.out]
        unfold heldZ
        rw [List.any_eq_false]
        intro s hs
        obtain ⟨i, hi, e⟩ := List.mem_iff_getElem.1 hs
        have := HNO.out i s (by omega) (by rw [List.getElem?_eq_getElem hi, e])
        simpa using this
      have hd : ¬ (S.length : Int) < (S.length : Int) := by omega
      rw [hke]
      go_wp2
      go_ret
      exact ⟨by rw [HRT.out]; rfl, rfl⟩
end Go.Proofs.Ytlnpiadjnjdfiaa.E
