/- TokenJoins is true whatever the two texts, where the laid table holds. -/
import Derived.Test.YtbfgnfcecfjlnaaDoorLine
namespace Go.Proofs.YtbfgnfcecfjlnaaDoor
open Go.RowKit

theorem TokAt.first {w : World} {a : Option Addr} {n cap : Nat} {ts us : List Tok} (h : TokAt w (.slice a n cap) (ts ++ us)) : TokAt w (.slice a ts.length cap) ts := by
  obtain ⟨a', cap', hv, hcap, hc⟩ := h
  cases hv
  rw [List.length_append] at hcap
  refine ⟨a, cap, rfl, by omega, fun h0 => ?_⟩
  obtain ⟨g, off, ha, hcell⟩ := hc (by rw [List.length_append]; omega)
  refine ⟨g, off, ha, fun j v hj => hcell j v ?_⟩
  rw [List.flatMap_append, List.getElem?_append_left (List.getElem?_eq_some_iff.1 hj).1]
  exact hj
theorem flat_len (ts : List Tok) : (ts.flatMap tokCells).length = ts.length * 5 := by
  induction ts with
  | nil => rfl
  | cons t r ih => rw [List.flatMap_cons, List.length_append, ih]; simp [tokCells]; omega
theorem TokAt.rest {w : World} {g off n cap : Nat} {ts us : List Tok} {t : Tok} (h : TokAt w (.slice (some ⟨g, off, none⟩) n cap) (ts ++ t :: us)) (ad : Option Addr) (hne : us ≠ [] → ad = some ⟨g, off + (ts.length + 1) * 5, none⟩) :
    TokAt w (.slice ad us.length (cap - (ts.length + 1))) us := by
  obtain ⟨a', cap', hv, hcap, hc⟩ := h
  cases hv
  rw [List.length_append, List.length_cons] at hcap
  refine ⟨ad, _, rfl, by omega, fun h0 => ?_⟩
  obtain ⟨g', off', ha, hcell⟩ := hc (by rw [List.length_append, List.length_cons]; omega)
  cases ha
  refine ⟨g, _, hne (by intro e; rw [e] at h0; simp at h0), fun j v hj => ?_⟩
  have h2 : ((ts ++ t :: us).flatMap tokCells)[(ts.length + 1) * 5 + j]? = some v := by
    have e : ts ++ t :: us = (ts ++ [t]) ++ us := by simp
    rw [e, List.flatMap_append, List.getElem?_append_right (by rw [flat_len]; simp)]
    rw [flat_len]
    simpa using hj
  have := hcell _ _ h2
  rw [← Nat.add_assoc] at this
  exact this
theorem quiet_step {a : ByteArray} {k : Nat} (h : Quiet6 a k) (hlt : k < a.size) (hk : (a[k]'hlt).toNat ≠ 34 ∧ (a[k]'hlt).toNat ≠ 39 ∧ (a[k]'hlt).toNat ≠ 40 ∧ (a[k]'hlt).toNat ≠ 47 ∧ (a[k]'hlt).toNat ≠ 92 ∧ (a[k]'hlt).toNat ≠ 13) : Quiet6 a (k + 1) := by
  intro j hj hj2
  rcases Nat.lt_or_ge j k with h1 | h1
  · exact h j hj h1
  · have : j = k := by omega
    subst this
    exact hk

theorem kind_last (ts : List Tok) (w : World) (a : Option Addr) (h : 0 < ts.length → ∃ g off, a = some ⟨g, off, none⟩ ∧ ∀ (j : Nat) v, (ts.flatMap tokCells)[j]? = some v → w.cell? ⟨g, off + j, none⟩ = some v)
    (hl : ∀ t, ts.getLast? = some t → t.kind ≠ 13) : ¬ ((0 : Int) < (ts.length : Int)) ∨ ((0 : Int) < (ts.length : Int) ∧ ∃ g off t, a = some ⟨g, off, none⟩ ∧ w.cell? ⟨g, off + (ts.length - 1) * 5, none⟩ = some (.int .i64 t) ∧ (t == 13) = false) := by
  by_cases h0 : ts.length = 0
  · left; omega
  · right
    refine ⟨by omega, ?_⟩
    obtain ⟨g, off, rfl, q⟩ := h (by omega)
    have hlt : ts.length - 1 < ts.length := by omega
    have c0 := q ((ts.length - 1) * 5 + 0) _ ((flat_get ts (ts.length - 1) 0 hlt (by omega)).trans rfl)
    refine ⟨g, off, (ts[ts.length - 1]'hlt).kind, rfl, by simpa using c0, ?_⟩
    have := hl (ts[ts.length - 1]'hlt) (by rw [List.getLast?_eq_getElem?, List.getElem?_eq_getElem hlt])
    simpa using this
theorem kind_first (us : List Tok) (w : World) (a : Option Addr) (h : 0 < us.length → ∃ g off, a = some ⟨g, off, none⟩ ∧ ∀ (j : Nat) v, (us.flatMap tokCells)[j]? = some v → w.cell? ⟨g, off + j, none⟩ = some v) :
    ((0 : Int) < (us.length : Int) ∧ 0 < us.length ∧ ∃ g off, a = some ⟨g, off, none⟩ ∧ w.cell? ⟨g, off, none⟩ = some (.int .i64 13)) ∨
    ((∀ t, us.head? = some t → t.kind ≠ 13) ∧ (¬ ((0 : Int) < (us.length : Int)) ∨ ((0 : Int) < (us.length : Int) ∧ ∃ g off t, a = some ⟨g, off, none⟩ ∧ w.cell? ⟨g, off, none⟩ = some (.int .i64 t) ∧ (t == 13) = false))) := by
  cases us with
  | nil => right; exact ⟨fun t ht => by simp at ht, .inl (by simp)⟩
  | cons t r =>
    obtain ⟨g, off, rfl, q⟩ := h (by simp)
    have c0 : w.cell? ⟨g, off, none⟩ = some (.int .i64 t.kind) := by
      have := q 0 _ ((flat_get (t :: r) 0 0 (by simp) (by omega)).trans rfl)
      simpa using this
    by_cases hk : t.kind = 13
    · left
      rw [hk] at c0
      exact ⟨by simp, by simp, g, off, rfl, c0⟩
    · right
      refine ⟨fun u hu => ?_, .inr ⟨by simp, g, off, _, rfl, c0, by simpa using hk⟩⟩
      simp at hu
      subst hu
      exact hk

set_option maxHeartbeats 4000000 in
set_option maxRecDepth 100000 in
theorem joins_walk (w : World) (a b : ByteArray) (ha : a.size ≤ 140737488351232) (hb : b.size ≤ 140737488351232) (ht : Tab w) : Calls Tryd.prog 5 #[.string a, .string b] w fun e w' => e = .returned (.bool true) ∧ Below w.heap.size w w' := by
  have h3 : 3 < w.heap.size := World.block_lt_of_cell? w _ ht
  by_cases hbig : 2000 < a.size + b.size
  · have hb2 : (2000 : Int) < (a.size : Int) + (b.size : Int) := by omega
    have hli := lives_any w ht h3
    clear hbig
    go_enter Tryd.func5, Tryd.ntmps5
    go_wp2_with (go_at_call 8; fail)
    refine (hli).mono ?_
    rintro e w1 ⟨rfl, b1⟩
    go_wp2
    go_ret
    exact ⟨rfl, b1⟩
  · have hb2 : ¬ (2000 : Int) < (a.size : Int) + (b.size : Int) := by omega
    have hc1 := cut_any a w (by omega)
    go_enter Tryd.func5, Tryd.ntmps5
    go_wp2_with (go_at_call 9; fail)
    refine (hc1).mono ?_
    rintro e w1 ⟨o1, rfl, ho1, b1⟩
    have hc2 := cut_any b w1 (by omega)
    go_wp2_with (go_at_call 9; fail)
    refine (hc2).mono ?_
    rintro e w2 ⟨o2, rfl, ho2, b2⟩
    have hta := (TokAt.outs ho1).below b2
    have htb := TokAt.outs ho2
    have hB2 : Below w.heap.size w w2 := b1.trans (b2.mono b1.size)
    have ht2 := tab_below ht hB2 h3
    have h32 : 3 < w2.heap.size := by have := hB2.size; omega
    have hli := lives_any w2 ht2 h32
    have hlc1 := cut_len a
    have hlc2 := cut_len b
    have hcj := fun hq h1 h2 => cut_joined a b hq h1 h2
    have hsz3 : (a ++ ⟨#[10]⟩ ++ b).size ≤ 1000000000 := by
      rw [ByteArray.size_append, ByteArray.size_append]
      have : (⟨#[10]⟩ : ByteArray).size = 1 := rfl
      omega
    have hc3 := cut_any (a ++ ⟨#[10]⟩ ++ b) w2 hsz3
    clear ho1 ho2 hc1 hc2 b1 b2
    generalize cutZ a = ts at *
    generalize cutZ b = us at *
    have HCJ : Hid (Quiet6 a a.size → (∀ t, ts.getLast? = some t → t.kind ≠ 13) → (∀ t, us.head? = some t → t.kind ≠ 13) → cutZ (a ++ ⟨#[10]⟩ ++ b) = ts ++ plainTok 13 [] :: us) := hcj
    clear hcj
    obtain ⟨a1, c1, rfl, hcap1, hcell1⟩ := hta
    obtain ⟨a2, c2, rfl, hcap2, hcell2⟩ := htb
    have HC1 : Hid (0 < ts.length → ∃ g off, a1 = some ⟨g, off, none⟩ ∧ ∀ (j : Nat) v, (ts.flatMap tokCells)[j]? = some v → w2.cell? ⟨g, off + j, none⟩ = some v) := hcell1
    have HC2 : Hid (0 < us.length → ∃ g off, a2 = some ⟨g, off, none⟩ ∧ ∀ (j : Nat) v, (us.flatMap tokCells)[j]? = some v → w2.cell? ⟨g, off + j, none⟩ = some v) := hcell2
    have HC3 := hc3
    clear hcell1 hcell2 hc3
    go_wp2
    go_loopw [7] (fun i wr => ∃ k : Nat, i = .int .i64 k ∧ w2 = wr ∧ k ≤ a.size ∧ Quiet6 a k) (fun i _ => a.size + 1 - (intOf i).toNat)
    case atStart => exact ⟨0, rfl, rfl, Nat.zero_le _, fun j _ hj => absurd hj (by omega)⟩
    case round =>
      obtain ⟨k, rfl, rfl, hk, hno⟩ := hrel
      by_cases hlt : k < a.size
      · by_cases hq : (a[k]'hlt).toNat = 34 ∨ (a[k]'hlt).toNat = 39 ∨ (a[k]'hlt).toNat = 40 ∨ (a[k]'hlt).toNat = 47 ∨ (a[k]'hlt).toNat = 92 ∨ (a[k]'hlt).toNat = 13
        · clear hno
          rcases hq with h | h | h | h | h | h
          · have e34 : (((a[k]'hlt).toNat : Int) == 34) = true := by rw [h]; rfl
            clear h
            go_wp2_with (go_at_call 8; fail)
            refine (hli).mono ?_
            rintro e w3 ⟨rfl, b3⟩
            go_wp2
            go_ret
            exact ⟨rfl, hB2.trans (b3.mono hB2.size)⟩
          · have e34 : (((a[k]'hlt).toNat : Int) == 34) = false := by rw [h]; rfl
            have e39 : (((a[k]'hlt).toNat : Int) == 39) = true := by rw [h]; rfl
            clear h
            go_wp2_with (go_at_call 8; fail)
            refine (hli).mono ?_
            rintro e w3 ⟨rfl, b3⟩
            go_wp2
            go_ret
            exact ⟨rfl, hB2.trans (b3.mono hB2.size)⟩
          · have e34 : (((a[k]'hlt).toNat : Int) == 34) = false := by rw [h]; rfl
            have e39 : (((a[k]'hlt).toNat : Int) == 39) = false := by rw [h]; rfl
            have e40 : (((a[k]'hlt).toNat : Int) == 40) = true := by rw [h]; rfl
            clear h
            go_wp2_with (go_at_call 8; fail)
            refine (hli).mono ?_
            rintro e w3 ⟨rfl, b3⟩
            go_wp2
            go_ret
            exact ⟨rfl, hB2.trans (b3.mono hB2.size)⟩
          · have e34 : (((a[k]'hlt).toNat : Int) == 34) = false := by rw [h]; rfl
            have e39 : (((a[k]'hlt).toNat : Int) == 39) = false := by rw [h]; rfl
            have e40 : (((a[k]'hlt).toNat : Int) == 40) = false := by rw [h]; rfl
            have e47 : (((a[k]'hlt).toNat : Int) == 47) = true := by rw [h]; rfl
            clear h
            go_wp2_with (go_at_call 8; fail)
            refine (hli).mono ?_
            rintro e w3 ⟨rfl, b3⟩
            go_wp2
            go_ret
            exact ⟨rfl, hB2.trans (b3.mono hB2.size)⟩
          · have e34 : (((a[k]'hlt).toNat : Int) == 34) = false := by rw [h]; rfl
            have e39 : (((a[k]'hlt).toNat : Int) == 39) = false := by rw [h]; rfl
            have e40 : (((a[k]'hlt).toNat : Int) == 40) = false := by rw [h]; rfl
            have e47 : (((a[k]'hlt).toNat : Int) == 47) = false := by rw [h]; rfl
            have e92 : (((a[k]'hlt).toNat : Int) == 92) = true := by rw [h]; rfl
            clear h
            go_wp2_with (go_at_call 8; fail)
            refine (hli).mono ?_
            rintro e w3 ⟨rfl, b3⟩
            go_wp2
            go_ret
            exact ⟨rfl, hB2.trans (b3.mono hB2.size)⟩
          · have e34 : (((a[k]'hlt).toNat : Int) == 34) = false := by rw [h]; rfl
            have e39 : (((a[k]'hlt).toNat : Int) == 39) = false := by rw [h]; rfl
            have e40 : (((a[k]'hlt).toNat : Int) == 40) = false := by rw [h]; rfl
            have e47 : (((a[k]'hlt).toNat : Int) == 47) = false := by rw [h]; rfl
            have e92 : (((a[k]'hlt).toNat : Int) == 92) = false := by rw [h]; rfl
            have e13 : (((a[k]'hlt).toNat : Int) == 13) = true := by rw [h]; rfl
            clear h
            go_wp2_with (go_at_call 8; fail)
            refine (hli).mono ?_
            rintro e w3 ⟨rfl, b3⟩
            go_wp2
            go_ret
            exact ⟨rfl, hB2.trans (b3.mono hB2.size)⟩
        · have HQ : Hid (Quiet6 a (k + 1)) := quiet_step hno hlt ⟨fun h => hq (.inl h), fun h => hq (.inr (.inl h)), fun h => hq (.inr (.inr (.inl h))), fun h => hq (.inr (.inr (.inr (.inl h)))), fun h => hq (.inr (.inr (.inr (.inr (.inl h))))), fun h => hq (.inr (.inr (.inr (.inr (.inr h)))))⟩
          have e34 : (((a[k]'hlt).toNat : Int) == 34) = false := by simp; omega
          have e39 : (((a[k]'hlt).toNat : Int) == 39) = false := by simp; omega
          have e40 : (((a[k]'hlt).toNat : Int) == 40) = false := by simp; omega
          have e47 : (((a[k]'hlt).toNat : Int) == 47) = false := by simp; omega
          have e92 : (((a[k]'hlt).toNat : Int) == 92) = false := by simp; omega
          have e13 : (((a[k]'hlt).toNat : Int) == 13) = false := by simp; omega
          clear hq hno
          go_wp2
          go_roundw
          case rel => exact ⟨k + 1, by go_num, by first | rfl | trivial, by omega, HQ.out⟩
          case measure => simp [intOf]; omega
      · have hq6 : Quiet6 a a.size := fun j h1 h2 => hno j h1 (by omega)
        have HQ6 : Hid (Quiet6 a a.size) := hq6
        clear hno hq6
        by_cases hA : ∃ r t, ts = r ++ [t] ∧ t.kind = 13
        · obtain ⟨r, t, rfl, hk13⟩ := hA
          obtain ⟨g, off, rfl, q⟩ := HC1.out (by simp)
          have c0 : w2.cell? ⟨g, off + r.length * 5, none⟩ = some (.int .i64 13) := by
            have := q (r.length * 5 + 0) _ ((flat_get (r ++ [t]) r.length 0 (by simp) (by omega)).trans rfl)
            simpa [hk13] using this
          have hl : (r ++ [t]).length = r.length + 1 := by simp
          rw [hl] at hcap1 hlc1
          clear q HC1 HC2 HCJ HC3 HQ6 hk13
          go_wp2_with (go_at_call 8; fail)
          refine (hli).mono ?_
          rintro e w3 ⟨rfl, b3⟩
          go_wp2
          go_ret
          exact ⟨rfl, hB2.trans (b3.mono hB2.size)⟩
        · have hA1 : ∀ t, ts.getLast? = some t → t.kind ≠ 13 := by
            intro t htl hk
            obtain ⟨r, hr⟩ := List.getLast?_eq_some_iff.1 htl
            exact hA ⟨r, t, hr, hk⟩
          have hT := kind_last ts w2 a1 HC1.out hA1
          have hU := kind_first us w2 a2 HC2.out
          have HTT : Hid (TokAt w2 (.slice a1 ts.length c1) ts) := ⟨a1, c1, rfl, hcap1, HC1.out⟩
          have HUU : Hid (TokAt w2 (.slice a2 us.length c2) us) := ⟨a2, c2, rfl, hcap2, HC2.out⟩
          have HA1 : Hid (∀ t, ts.getLast? = some t → t.kind ≠ 13) := hA1
          clear HC1 HC2 hA hA1
          have hlt' : ¬ ((k : Int) < (a.size : Int)) := by omega
          generalize hp : ts.length = p at *
          generalize hq : us.length = q at *
          have HP : Hid (ts.length = p) := hp
          have HQ : Hid (us.length = q) := hq
          clear hp hq
          rcases hU with ⟨hu0, hu1, g2, off2, rfl, cu⟩ | ⟨hU2, hU1⟩
          · rcases hT with ht0 | ⟨ht0, g1, off1, t1, rfl, ct, hk1⟩
            all_goals
              clear HC3 HCJ
              go_wp2_with (go_at_call 8; fail)
              refine (hli).mono ?_
              rintro e w3 ⟨rfl, b3⟩
              go_wp2
              go_ret
              exact ⟨rfl, hB2.trans (b3.mono hB2.size)⟩
          · have hj := HCJ.out HQ6.out HA1.out hU2
            have HU2 : Hid (∀ t, us.head? = some t → t.kind ≠ 13) := hU2
            clear hU2
            rw [hj] at HC3
            clear hj HCJ
            rcases hT with ht0 | ⟨ht0, g1, off1, t1, rfl, ct, hk1⟩ <;> rcases hU1 with hu0 | ⟨hu0, g2, off2, t2, rfl, cu, hk2⟩
            all_goals
              go_wp2_with (go_at_call 9; fail)
              refine (HC3).mono ?_
              rintro e w3 ⟨o3, rfl, ho3, b3⟩
              have hB3 := hB2.trans (b3.mono hB2.size)
              obtain ⟨g3, cap3, rfl, hg3, hcap3, hcell3⟩ := outs_cells ho3 (by simp)
              have hta3 := TokAt.outs ho3
              have ht1 := HTT.out.below b3
              have hu1 := HUU.out.below b3
              have z0 : w3.cell? ⟨g3, p * 5, none⟩ = some (.int .i64 13) := by
                have := hcell3 (ts.length * 5 + 0) (.int .i64 13) ((flat_get (ts ++ plainTok 13 [] :: us) ts.length 0 (by simp) (by omega)).trans (by simp [tokCells, plainTok]))
                rw [HP.out] at this
                exact this
              have hN : (ts ++ plainTok 13 [] :: us).length = p + (q + 1) := by rw [← HP.out, ← HQ.out]; simp
              have hne : (((ts ++ plainTok 13 [] :: us).length : Int) != (p : Int) + 1 + (q : Int)) = false := by rw [hN]; simp; omega
              have hpr : (p : Int) < ((ts ++ plainTok 13 [] :: us).length : Int) := by rw [hN]; omega
              have hpr2 : (p : Int) + 1 ≤ ((ts ++ plainTok 13 [] :: us).length : Int) := by rw [hN]; omega
              have hpc : p + 1 ≤ cap3 := by rw [hN] at hcap3; omega
              have HTA : Hid (TokAt w3 (.slice (some ⟨g3, 0, none⟩) (ts ++ plainTok 13 [] :: us).length cap3) (ts ++ plainTok 13 [] :: us)) := hta3
              generalize (ts ++ plainTok 13 [] :: us).length = r at *
              have HN : Hid (r = p + (q + 1)) := hN
              have hf1 := HTA.out.first
              rw [HP.out] at hf1
              have hsy1 := same_yes _ _ ts w3 hf1 ht1 (by rw [HP.out]; omega)
              clear hcell3 ho3 hta3 hN HC3 hf1 ht1
              have HU1 := hid_mk hu1
              clear hu1
              go_wp2_with (go_at_call 14; fail)
              refine (hsy1).mono ?_
              rintro e w4 ⟨rfl, b4⟩
              clear hsy1
              have hB4 := hB3.trans (b4.mono hB3.size)
              have hl5 : ∀ w5, Below w4.heap.size w4 w5 → Calls Tryd.prog 8 #[] w5 fun e w' => e = .returned (.bool true) ∧ Below w5.heap.size w5 w' := fun w5 b5 => lives_any w5 (tab_below ht (hB4.trans (b5.mono hB4.size)) h3) (by have := hB4.size; have := b5.size; omega)
              have hrp : r - (p + 1) = q := by rw [HN.out]; omega
              have hr2 : ∀ ad, (us ≠ [] → ad = some ⟨g3, (p + 1) * 5, none⟩) → TokAt w4 (.slice ad (r - (p + 1)) (cap3 - (p + 1))) us := by
                intro ad had
                have := (HTA.out.rest ad (by rw [HP.out, Nat.zero_add]; exact had)).below b4
                rw [HP.out, HQ.out] at this
                rw [hrp]
                exact this
              have hsy2 := fun ad had => same_yes _ _ us w4 (hr2 ad had) (HU1.out.below b4) (by rw [HQ.out]; omega)
              clear hr2
              have HL5 := hid_mk hl5
              clear hl5 hrp
              by_cases hcp : cap3 = p + 1
              · have hus : us = [] := List.length_eq_zero_iff.1 (by rw [HQ.out]; have := HN.out; omega)
                have hsy3 := hsy2 (some ⟨g3, 0, none⟩) (fun h => absurd hus h)
                clear hsy2 hus
                subst hcp
                clear hpc hcap3
                rw [Nat.sub_self] at hsy3
                go_wp2_with (go_at_call 14; fail)
                refine (hsy3).mono ?_
                rintro e w5 ⟨rfl, b5⟩
                go_wp2_with (go_at_call 8; fail)
                refine (HL5.out w5 b5).mono ?_
                rintro e w6 ⟨rfl, b6⟩
                go_wp2
                go_ret
                have hB5 := hB4.trans (b5.mono hB4.size)
                exact ⟨rfl, hB5.trans (b6.mono hB5.size)⟩
              · have hsy3 := hsy2 (some ⟨g3, (p + 1) * 5, none⟩) (fun _ => rfl)
                clear hsy2
                go_wp2_with (go_at_call 14; fail)
                refine (hsy3).mono ?_
                rintro e w5 ⟨rfl, b5⟩
                go_wp2_with (go_at_call 8; fail)
                refine (HL5.out w5 b5).mono ?_
                rintro e w6 ⟨rfl, b6⟩
                go_wp2
                go_ret
                have hB5 := hB4.trans (b5.mono hB4.size)
                exact ⟨rfl, hB5.trans (b6.mono hB5.size)⟩
end Go.Proofs.YtbfgnfcecfjlnaaDoor
