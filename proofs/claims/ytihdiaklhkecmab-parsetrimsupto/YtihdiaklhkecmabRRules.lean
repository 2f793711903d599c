/- gouacheref03.Count and gouachelaw03.great of any values. gouacheref03.Flat of any values; gouacheref02.Same of like tokens. gouacheref03.Rules of any values. -/
import Derived.Test.YtihdiaklhkecmabAppF
import Derived.Deep.DeepCutAuto
namespace Go.Proofs.Ytihdiaklhkecmab
open Go.RowKit
set_option maxRecDepth 100000

mutual
/-- How many values there are, with those within. -/
def countV : V → Nat
  | .mk _ ks => 1 + countL ks
def countL : List V → Nat
  | [] => 0
  | v :: r => countV v + countL r
end
mutual
theorem flatV_count : ∀ v, (flatV v).length ≤ 2 * countV v
  | .mk t ks => by
    have := flatL_count ks
    rw [flatV, countV]
    split
    · simp; omega
    · simp; omega
theorem flatL_count : ∀ vs, (flatL vs).length ≤ 2 * countL vs
  | [] => by simp [flatL]
  | v :: r => by
    have h1 := flatV_count v
    have h2 := flatL_count r
    rw [flatL, countL, List.length_append]
    omega
end
theorem countL_append (a b : List V) : countL (a ++ b) = countL a + countL b := by
  induction a with
  | nil => simp [countL]
  | cons x r ih => rw [List.cons_append, countL, countL, ih, Nat.add_assoc]
theorem countL_take (vs : List V) (k : Nat) (h : k < vs.length) : countL (vs.take (k + 1)) = countL (vs.take k) + countV (vs[k]'h) := by
  rw [List.take_succ_eq_append_getElem h, countL_append]
  simp [countL]
theorem countL_take_le (vs : List V) (k : Nat) : countL (vs.take k) ≤ countL vs := by
  have h : countL vs = countL (vs.take k) + countL (vs.drop k) := by rw [← countL_append, List.take_append_drop]
  omega
theorem count_len (vs : List V) : vs.length ≤ countL vs := by
  induction vs with
  | nil => simp
  | cons x r ih =>
    rw [countL, List.length_cons]
    cases x
    rw [countV]
    omega
theorem count_kid {x : V} {vs : List V} (h : x ∈ vs) : countL x.kids + 1 ≤ countL vs := by
  induction vs with
  | nil => cases h
  | cons y r ih =>
    rw [countL]
    rcases List.mem_cons.1 h with rfl | h
    · cases x
      rw [countV]
      show countL _ + 1 ≤ _
      simp only [V.kids]
      omega
    · have := ih h
      omega
theorem count_most : ∀ (n : Nat) (vs : List V), countL vs ≤ n → countL vs ≤ 1000000000 → V.most vs
  | 0, vs, h, _ => by
    have := count_len vs
    have e : vs = [] := List.length_eq_zero_iff.1 (by omega)
    subst e
    exact .mk _ (by simp) (fun x hx => by cases hx)
  | n + 1, vs, h, h2 => .mk _ (Nat.le_trans (count_len vs) h2) (fun x hx => by
    have := count_kid hx
    exact count_most n x.kids (by omega) (by omega))
set_option maxHeartbeats 400000 in
theorem count_any {P : Nat → Prop} {W : World} {v : Value} {vs : List V} (h : VsAt P W v vs) : ∀ w, Below W.heap.size W w → countL vs ≤ 2000000 →
    Calls Try.prog 9 #[v] w fun e w' => e = .returned (.int .i64 (countL vs : Nat)) ∧ Below w.heap.size w w' := by
  induction h with
  | mk a cap vs b off kv h1 h2 ha hc hr ih =>
    intro w hw hn
    have HA := hid_mk ha
    have HC := hid_mk hc
    have HR := hid_mk hr
    have HI := hid_mk ih
    have HW := hid_mk hw
    have HN := hid_mk hn
    clear ha hc hr ih hw hn
    go_enter Try.func9, Try.ntmps9
    go_wp2
    go_loopw [3, 8] (fun a3 a8 wr => ∃ (k : Nat), a8 = .int .i64 k ∧ a3 = .int .i64 (countL (vs.take k) : Nat) ∧ k ≤ vs.length ∧ Below w.heap.size w wr) (fun _ a8 _ => vs.length + 1 - (intOf a8).toNat)
    case atStart => exact ⟨0, rfl, by simp [countL], Nat.zero_le _, Below.refl _ _⟩
    case round =>
      obtain ⟨k, rfl, rfl, hk, hB⟩ := hrel
      by_cases hlt : k < vs.length
      · obtain ⟨rfl, hb, -⟩ := HA.out (by omega)
        have hWr : Below W.heap.size W wr := HW.out.trans (hB.mono HW.out.size)
        have hq := fun j y hy => (hWr.cell (p := ⟨b, off + k * 6 + j, none⟩) hb).trans (HC.out k hlt j y hy)
        have hbx : b < wr.heap.size := Nat.lt_of_lt_of_le hb hWr.size
        have hct := countL_take vs k hlt
        have hcl := countL_take_le vs (k + 1)
        have hcv : countV (vs[k]'hlt) = 1 + countL (vs[k]'hlt).kids := by cases vs[k]'hlt; rfl
        have HT : Hid (countL (vs.take (k + 1)) = countL (vs.take k) + (1 + countL (vs[k]'hlt).kids)) := by show _ = _; rw [hct, hcv]
        have hnn := HN.out
        have hkk : countL (vs.take k) + (1 + countL (vs[k]'hlt).kids) ≤ 2000000 := by have := HT.out; omega
        have HI2 := hid_mk (HI.out k hlt)
        obtain ⟨x1, c1, e1, _, _⟩ := (HR.out k hlt).slice
        rw [e1] at hq HI2
        generalize (vs[k]'hlt).tok = t at *
        generalize (vs[k]'hlt).kids = ks at *
        generalize countL (vs.take k) = ck at *
        obtain ⟨tk, tx, un, wh, fl⟩ := t
        have q0 : wr.cell? ⟨b, off + k * 6, none⟩ = some (.int .i64 tk) := hq 0 _ rfl
        have q1 : wr.cell? ⟨b, off + k * 6 + 1, none⟩ = some (.string tx) := hq 1 _ rfl
        have q2 : wr.cell? ⟨b, off + k * 6 + 2, none⟩ = some (.string un) := hq 2 _ rfl
        have q3 : wr.cell? ⟨b, off + k * 6 + 3, none⟩ = some (.bool wh) := hq 3 _ rfl
        have q4 : wr.cell? ⟨b, off + k * 6 + 4, none⟩ = some (.bool fl) := hq 4 _ rfl
        have q5 : wr.cell? ⟨b, off + k * 6 + 5, none⟩ = some (.slice x1 ks.length c1) := hq 5 _ rfl
        have hcall := fun o => HI2.out (wr.alloc o) (hWr.trans (((Below.refl _ wr).alloc (Nat.le_refl _) o).mono hWr.size)) (by omega)
        have HBA : Hid (∀ o, Below w.heap.size w (wr.alloc o)) := fun o => hB.trans (((Below.refl _ wr).alloc (Nat.le_refl _) o).mono hB.size)
        clear hq e1 HA HC HR HI HW hWr hB hct hcl hcv hnn HN HI2
        generalize countL ks = cks at *
        go_wp2_with (go_at_call 9; fail)
        refine (hcall _).mono ?_
        rintro e w2 ⟨rfl, hB2⟩
        have HB2 : Hid (Below w.heap.size w w2) := (HBA.out _).trans (hB2.mono (HBA.out _).size)
        clear hcall hB2 HBA q0 q1 q2 q3 q4 q5
        go_wp2
        go_roundw
        case rel => exact ⟨k + 1, by go_num, by rw [HT.out]; go_num, by omega, HB2.out⟩
        case measure => simp [intOf]; omega
      · have e : vs.take k = vs := List.take_of_length_le (by omega)
        rw [e]
        have HB1 := hid_mk hB
        clear hB
        go_wp2
        go_ret
        exact ⟨rfl, HB1.out⟩
/-- More, or nested deeper, than are looked at. -/
def greatZ (vs : List V) : Bool := deepL vs 100 || decide (3000 < countL vs)
set_option maxHeartbeats 400000 in
theorem great_any {P : Nat → Prop} {W : World} {v : Value} {vs : List V} (h : VsAt P W v vs) (w : World) (hw : Below W.heap.size W w) (hn : countL vs ≤ 2000000) :
    Calls Try.prog 4 #[v] w fun e w' => e = .returned (.bool (greatZ vs)) ∧ Below w.heap.size w w' := by
  have h25 := deep_any h w 100 hw (by omega) (by omega)
  have h31 := fun w' (hb : Below w.heap.size w w') => count_any h w' (hw.trans (hb.mono hw.size)) hn
  obtain ⟨a, cap, rfl, _, _⟩ := h.slice
  have HG : Hid (greatZ vs = (deepL vs 100 || decide (3000 < countL vs))) := (rfl : _ = _)
  clear h hw
  generalize deepL vs 100 = dd at *
  generalize countL vs = cc at *
  generalize greatZ vs = gg at *
  go_enter Try.func4, Try.ntmps4
  go_wp2_with (go_at_call 8; fail)
  refine h25.mono ?_
  rintro e w1 ⟨rfl, hb1⟩
  have h32 := h31 w1 hb1
  have HB1 := hid_mk hb1
  clear h25 h31 hb1
  cases dd
  · go_wp2_with (go_at_call 9; fail)
    refine h32.mono ?_
    rintro e w2 ⟨rfl, hb2⟩
    have HB2 : Hid (Below w.heap.size w w2) := HB1.out.trans (hb2.mono HB1.out.size)
    clear h32 hb2
    go_wp2
    go_ret
    refine ⟨?_, HB2.out⟩
    rw [HG.out]
    simp
    omega
  · go_wp2
    go_ret
    exact ⟨by rw [HG.out]; rfl, HB1.out⟩

end Go.Proofs.Ytihdiaklhkecmab
namespace Go.Proofs.Ytihdiaklhkecmab
open Go.RowKit
set_option maxRecDepth 100000

theorem TRow.ones (ts : List T5) : ∀ y ∈ ts.flatMap t5Cells, y.oneCell' = true := by
  intro u hu
  obtain ⟨t, _, ht⟩ := List.mem_flatMap.1 hu
  simp [t5Cells] at ht
  rcases ht with rfl | rfl | rfl | rfl | rfl <;> rfl
theorem TRow.keep {B : Nat} {w w' : World} {out : Value} {ts : List T5} (h : TRow B w out ts) (hb : Below w.heap.size w w') : TRow B w' out ts := ownsRow_below h hb
theorem TRow.cat {B : Nat} {w : World} {v : Value} {ts us : List T5} (h : w.ownsRow B 27 5 v (ts.length + us.length) (ts.flatMap t5Cells ++ us.flatMap t5Cells)) : TRow B w v (ts ++ us) := by
  unfold TRow
  rw [List.length_append, List.flatMap_append]
  exact h
end Go.Proofs.Ytihdiaklhkecmab
namespace Go.Proofs.Ytihdiaklhkecmab
open Go.RowKit
set_option maxRecDepth 100000

theorem nextZ_lt {ks : List Int} : ∀ (l : List V) (k : Nat) (h : k < l.length), k < nextZ ks l → hasZ ks (l[k]'h).tok.k = false
  | [], k, h, _ => by simp at h
  | x :: r, 0, _, h => by
    rw [nextZ] at h
    cases hx : hasZ ks x.tok.k with
    | true => rw [hx] at h; simp at h
    | false => exact hx
  | x :: r, k + 1, hk, h => by
    rw [nextZ] at h
    cases hx : hasZ ks x.tok.k with
    | true => rw [hx] at h; simp at h
    | false =>
      rw [hx] at h
      have h' : k < nextZ ks r := by simpa using h
      exact nextZ_lt r k (by simpa using hk) h'
theorem nextZ_at {ks : List Int} : ∀ (l : List V) (h : nextZ ks l < l.length), hasZ ks (l[nextZ ks l]'h).tok.k = true
  | [], h => by simp [nextZ] at h
  | x :: r, h => by
    cases hx : hasZ ks x.tok.k with
    | true =>
      have e : nextZ ks (x :: r) = 0 := by rw [nextZ, hx]; rfl
      simp only [e]
      exact hx
    | false =>
      have e : nextZ ks (x :: r) = nextZ ks r + 1 := by rw [nextZ, hx]; rfl
      have h' : nextZ ks r < r.length := by rw [e] at h; simpa using h
      simp only [e]
      exact nextZ_at r h'
end Go.Proofs.Ytihdiaklhkecmab
