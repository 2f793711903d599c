/- The tokens of values, and that they are read as those values again. parse.Flat: the tokens of values. gouacheref03.Deep: whether values are nested deeper than some. -/
import Derived.Test.YtihdiaklhkecmabValuesV
import Derived.Test.YtihdiaklhkecmabPValues
namespace Go.Proofs.Ytihdiaklhkecmab
open Go.RowKit

/-- The token that closes what a kind opens. -/
def endT (k : Int) : T5 := ⟨k, ⟨#[]⟩, ⟨#[]⟩, false, false⟩
mutual
/-- The tokens of a value, of values. -/
def flatV : V → List T5
  | .mk t ks => t :: (if closeZ t.k = 0 then [] else flatL ks ++ [endT (closeZ t.k)])
def flatL : List V → List T5
  | [] => []
  | v :: r => flatV v ++ flatL r
end
theorem flatL_append (a b : List V) : flatL (a ++ b) = flatL a ++ flatL b := by
  induction a with
  | nil => rfl
  | cons x r ih => rw [List.cons_append, flatL, flatL, ih, List.append_assoc]
theorem flatL_take (vs : List V) (k : Nat) (h : k < vs.length) : flatL (vs.take (k + 1)) = flatL (vs.take k) ++ flatV (vs[k]'h) := by
  rw [List.take_succ_eq_append_getElem h, flatL_append]
  simp [flatL]
theorem flatL_take_len (vs : List V) (k : Nat) : (flatL (vs.take k)).length ≤ (flatL vs).length := by
  have h : flatL vs = flatL (vs.take k) ++ flatL (vs.drop k) := by rw [← flatL_append, List.take_append_drop]
  rw [h, List.length_append]
  omega
/-- Values as they are read, up to what closes them, so deep. -/
inductive Ok : Int → Int → List V → Prop
  | nil (c n : Int) : Ok c n []
  | flat {c n : Int} {t : T5} {r : List V} (h1 : ¬(c ≠ 0 ∧ t.k = c)) (h2 : closeZ t.k = 0) (hr : Ok c n r) : Ok c n (.mk t [] :: r)
  | block {c n : Int} {t : T5} {ks r : List V} (h1 : ¬(c ≠ 0 ∧ t.k = c)) (h2 : closeZ t.k ≠ 0) (h3 : n + 1 ≤ 64) (hk : Ok (closeZ t.k) (n + 1) ks) (hr : Ok c n r) : Ok c n (.mk t ks :: r)
theorem some_ok : ∀ (f : Nat) (l : List T5) (c n : Int), Ok c n (someZ f l c n).1
  | 0, _, c, n => .nil c n
  | _ + 1, [], c, n => .nil c n
  | f + 1, t :: r, c, n => by
    rw [someZ]
    split
    · exact .nil c n
    · split
      · exact .flat (by assumption) (by assumption) (some_ok f r c n)
      · split
        · exact some_ok f _ c n
        · exact .block (by assumption) (by assumption) (by omega) (some_ok f r _ _) (some_ok f _ c n)
theorem some_fuel : ∀ (f g : Nat) (l : List T5) (c n : Int), l.length ≤ f → l.length ≤ g → someZ f l c n = someZ g l c n
  | f, g, [], c, n, _, _ => by rw [someZ_nil, someZ_nil]
  | 0, _, t :: r, _, _, h, _ => by simp at h
  | _ + 1, 0, t :: r, _, _, _, h => by simp at h
  | f + 1, g + 1, t :: r, c, n, hf, hg => by
    rw [List.length_cons] at hf hg
    have h1 := some_fuel f g r c n (by omega) (by omega)
    have h2 := some_fuel f g r (closeZ t.k) (n + 1) (by omega) (by omega)
    have hl := some_len f r (closeZ t.k) (n + 1)
    have h3 := some_fuel f g (someZ f r (closeZ t.k) (n + 1)).2 c n (by omega) (by omega)
    rw [someZ, someZ, h1, h3, h2]
theorem some_back {c n : Int} {vs : List V} (h : Ok c n vs) : ∀ (f : Nat) (R : List T5), (flatL vs ++ R).length ≤ f → someZ f (flatL vs ++ R) c n = (vs ++ (someZ f R c n).1, (someZ f R c n).2) := by
  induction h with
  | nil c n => intro f R _; simp [flatL]
  | @flat c n t r h1 h2 hr ih =>
    intro f R hf
    have e : flatL (V.mk t [] :: r) ++ R = t :: (flatL r ++ R) := by simp [flatL, flatV, h2]
    rw [e] at hf ⊢
    obtain ⟨f, rfl⟩ : ∃ g, f = g + 1 := ⟨f - 1, by rw [List.length_cons] at hf; omega⟩
    rw [List.length_cons] at hf
    have hR : R.length ≤ f := by rw [List.length_append] at hf; omega
    rw [someZ, if_neg h1, if_pos h2, ih f R (by omega), some_fuel f (f + 1) R c n hR (by omega)]
    rfl
  | @block c n t ks r h1 h2 h3 hk hr ihk ihr =>
    intro f R hf
    have e : flatL (V.mk t ks :: r) ++ R = t :: (flatL ks ++ (endT (closeZ t.k) :: (flatL r ++ R))) := by simp [flatL, flatV, h2]
    rw [e] at hf ⊢
    obtain ⟨f, rfl⟩ : ∃ g, f = g + 1 := ⟨f - 1, by rw [List.length_cons] at hf; omega⟩
    rw [List.length_cons] at hf
    have hl := hf
    rw [List.length_append, List.length_cons] at hl
    have hR : R.length ≤ f := by rw [List.length_append] at hl; omega
    have hc : someZ f (endT (closeZ t.k) :: (flatL r ++ R)) (closeZ t.k) (n + 1) = ([], flatL r ++ R) := by
      obtain ⟨g, rfl⟩ : ∃ g, f = g + 1 := ⟨f - 1, by omega⟩
      rw [someZ, if_pos ⟨h2, rfl⟩]
    rw [someZ, if_neg h1, if_neg h2, if_neg (by omega), ihk f _ (by omega), hc, ihr f R (by omega), some_fuel f (f + 1) R c n hR (by omega)]
    simp
theorem back_vals (ts : List T5) : valsZ (flatL (valsZ ts)) = valsZ ts := by
  have h := some_back (some_ok ts.length ts 0 0) (flatL (valsZ ts)).length [] (by rw [List.append_nil]; exact Nat.le_refl _)
  rw [List.append_nil, someZ_nil] at h
  show (someZ (flatL (valsZ ts)).length (flatL (valsZ ts)) 0 0).1 = valsZ ts
  rw [show flatL (valsZ ts) = flatL (someZ ts.length ts 0 0).1 from rfl] at h ⊢
  rw [h]
  simp [valsZ]
theorem some_twice : ∀ (f : Nat) (l : List T5) (c n : Int), (flatL (someZ f l c n).1).length + 2 * (someZ f l c n).2.length ≤ 2 * l.length
  | 0, l, _, _ => by simp [someZ, flatL]
  | _ + 1, [], _, _ => by simp [someZ, flatL]
  | f + 1, t :: r, c, n => by
    have h1 := some_twice f r c n
    have h2 := some_twice f r (closeZ t.k) (n + 1)
    have h3 := some_twice f (someZ f r (closeZ t.k) (n + 1)).2 c n
    rw [someZ, List.length_cons]
    split
    · simp [flatL]; omega
    · split
      · rename_i _ e
        simp only [flatL, flatV, if_pos e, List.length_append, List.length_cons, List.length_nil]
        omega
      · split
        · omega
        · rename_i _ e _
          simp only [flatL, flatV, if_neg e, List.length_append, List.length_cons, List.length_nil]
          omega
theorem flat_twice (ts : List T5) : (flatL (valsZ ts)).length ≤ 2 * ts.length := by
  have := some_twice ts.length ts 0 0
  show (flatL (someZ ts.length ts 0 0).1).length ≤ _
  omega
mutual
/-- Nested deeper than some? -/
def deepV : V → Int → Bool
  | .mk _ ks, m => decide (0 < ks.length) && (decide (m < 1) || deepL ks (m - 1))
def deepL : List V → Int → Bool
  | [], _ => false
  | v :: r, m => deepV v m || deepL r m
end
theorem ok_deep {c n : Int} {vs : List V} (h : Ok c n vs) : deepL vs (64 - n) = false := by
  induction h with
  | nil c n => rfl
  | flat h1 h2 hr ih => simp [deepL, deepV, ih]
  | @block c n t ks r h1 h2 h3 hk hr ihk ihr =>
    have e : 64 - n - 1 = 64 - (n + 1) := by omega
    have e2 : decide (64 - n < 1) = false := decide_eq_false (by omega)
    rw [deepL, deepV, ihr, e, ihk, e2]
    simp
theorem vals_deep (ts : List T5) : deepL (valsZ ts) 64 = false := ok_deep (some_ok ts.length ts 0 0)

end Go.Proofs.Ytihdiaklhkecmab
namespace Go.Proofs.Ytihdiaklhkecmab
open Go.RowKit
set_option maxRecDepth 100000

/-- A row of tokens of one's own. -/
def TRow (B : Nat) (w : World) (out : Value) (ts : List T5) : Prop := w.ownsRow B 27 5 out ts.length (ts.flatMap t5Cells)
theorem TRow.push {B : Nat} {w : World} {v : Value} {ts : List T5} {t : T5} (h : w.ownsRow B 27 5 v (ts.length + 1) (ts.flatMap t5Cells ++ t5Cells t)) : TRow B w v (ts ++ [t]) := by
  unfold TRow
  rw [List.length_append, List.flatMap_append, List.flatMap_singleton]
  exact h
theorem TRow.ts {B : Nat} {w : World} {v : Value} {ts : List T5} (h : TRow B w v ts) : TsAt w v ts := TsAt.own5 h
end Go.Proofs.Ytihdiaklhkecmab
namespace Go.Proofs.Ytihdiaklhkecmab
open Go.RowKit
set_option maxRecDepth 100000

theorem deepL_append (a b : List V) (m : Int) : deepL (a ++ b) m = (deepL a m || deepL b m) := by
  induction a with
  | nil => rfl
  | cons x r ih => rw [List.cons_append, deepL, deepL, ih, Bool.or_assoc]
theorem deepL_take (vs : List V) (k : Nat) (h : k < vs.length) (m : Int) : deepL (vs.take (k + 1)) m = (deepL (vs.take k) m || deepV (vs[k]'h) m) := by
  rw [List.take_succ_eq_append_getElem h, deepL_append]
  simp [deepL]
theorem deepL_yes (vs : List V) (k : Nat) (m : Int) (h : deepL (vs.take k) m = true) : deepL vs m = true := by
  have e : deepL vs m = (deepL (vs.take k) m || deepL (vs.drop k) m) := by rw [← deepL_append, List.take_append_drop]
  rw [e, h]
  rfl
set_option maxHeartbeats 400000 in
theorem deep_any {P : Nat → Prop} {W : World} {v : Value} {vs : List V} (h : VsAt P W v vs) : ∀ (w : World) (m : Int), Below W.heap.size W w → 0 ≤ m → m ≤ 1000 →
    Calls Try.prog 8 #[v, .int .i64 m] w fun e w' => e = .returned (.bool (deepL vs m)) ∧ Below w.heap.size w w' := by
  induction h with
  | mk a cap vs b off kv h1 h2 ha hc hr ih =>
    intro w m hw hm0 hm1
    have HA := hid_mk ha
    have HC := hid_mk hc
    have HR := hid_mk hr
    have HI := hid_mk ih
    have HW := hid_mk hw
    clear ha hc hr ih hw
    go_enter Try.func8, Try.ntmps8
    go_wp2
    go_loopw [9] (fun a9 wr => ∃ (k : Nat), a9 = .int .i64 k ∧ k ≤ vs.length ∧ deepL (vs.take k) m = false ∧ Below w.heap.size w wr) (fun a9 _ => vs.length + 1 - (intOf a9).toNat)
    case atStart => exact ⟨0, rfl, Nat.zero_le _, by simp [deepL], Below.refl _ _⟩
    case round =>
      obtain ⟨k, rfl, hk, hfa, hB⟩ := hrel
      by_cases hlt : k < vs.length
      · obtain ⟨rfl, hb, -⟩ := HA.out (by omega)
        have hWr : Below W.heap.size W wr := HW.out.trans (hB.mono HW.out.size)
        have hq := fun j y hy => (hWr.cell (p := ⟨b, off + k * 6 + j, none⟩) hb).trans (HC.out k hlt j y hy)
        have hbx : b < wr.heap.size := Nat.lt_of_lt_of_le hb hWr.size
        have HT : Hid (deepL (vs.take (k + 1)) m = (decide (0 < (vs[k]'hlt).kids.length) && (decide (m < 1) || deepL (vs[k]'hlt).kids (m - 1)))) := by
          show _ = _
          rw [deepL_take vs k hlt, hfa]
          cases vs[k]'hlt
          rfl
        have HY : Hid (deepL (vs.take (k + 1)) m = true → deepL vs m = true) := deepL_yes vs (k + 1) m
        have HI2 := hid_mk (HI.out k hlt)
        obtain ⟨x1, c1, e1, _, _⟩ := (HR.out k hlt).slice
        rw [e1] at hq HI2
        generalize (vs[k]'hlt).tok = t at *
        generalize (vs[k]'hlt).kids = ks at *
        obtain ⟨tk, tx, un, wh, fl⟩ := t
        have q0 : wr.cell? ⟨b, off + k * 6, none⟩ = some (.int .i64 tk) := hq 0 _ rfl
        have q1 : wr.cell? ⟨b, off + k * 6 + 1, none⟩ = some (.string tx) := hq 1 _ rfl
        have q2 : wr.cell? ⟨b, off + k * 6 + 2, none⟩ = some (.string un) := hq 2 _ rfl
        have q3 : wr.cell? ⟨b, off + k * 6 + 3, none⟩ = some (.bool wh) := hq 3 _ rfl
        have q4 : wr.cell? ⟨b, off + k * 6 + 4, none⟩ = some (.bool fl) := hq 4 _ rfl
        have q5 : wr.cell? ⟨b, off + k * 6 + 5, none⟩ = some (.slice x1 ks.length c1) := hq 5 _ rfl
        have hal : ∀ o, Below wr.heap.size wr (wr.alloc o) := fun o => (Below.refl _ wr).alloc (Nat.le_refl _) o
        have HBA : Hid (∀ o, Below w.heap.size w (wr.alloc o)) := fun o => hB.trans ((hal o).mono hB.size)
        have HWA : Hid (∀ o, Below W.heap.size W (wr.alloc o)) := fun o => hWr.trans ((hal o).mono hWr.size)
        clear hq e1 HA HC HR HI HW hWr hB hal hfa
        by_cases h0 : 0 < ks.length
        · have z0 : decide ((0 : Int) < (ks.length : Int)) = true := by simpa using h0
          by_cases hm : m < 1
          · have z1 : decide (m < 1) = true := by simpa using hm
            have HD : Hid (deepL vs m = true) := HY.out (by rw [HT.out]; simp [h0, hm])
            go_wp2
            go_ret
            exact ⟨by rw [HD.out]; rfl, HBA.out _⟩
          · have z1 : decide (m < 1) = false := by simpa using hm
            have hcl := fun o => HI2.out _ (m - 1) (HWA.out o) (by omega) (by omega)
            obtain ⟨dd, hdd⟩ : ∃ dd, dd = deepL ks (m - 1) := ⟨_, rfl⟩
            rw [← hdd] at hcl
            have HDD := hid_mk hdd
            clear hdd
            go_wp2_with (go_at_call 8; fail)
            refine (hcl _).mono ?_
            rintro e w2 ⟨rfl, hB2⟩
            have HB2 : Hid (Below w.heap.size w w2) := (HBA.out _).trans (hB2.mono (HBA.out _).size)
            clear hcl hB2 q0 q1 q2 q3 q4 q5
            cases dd
            · have HD : Hid (deepL (vs.take (k + 1)) m = false) := by
                show _ = _
                rw [HT.out, ← HDD.out]
                simp [hm]
              go_wp2
              go_roundw
              case rel => exact ⟨k + 1, by go_num, by omega, HD.out, HB2.out⟩
              case measure => simp [intOf]; omega
            · have HD : Hid (deepL vs m = true) := HY.out (by rw [HT.out, ← HDD.out]; simp [h0])
              go_wp2
              go_ret
              exact ⟨by rw [HD.out]; rfl, HB2.out⟩
        · have z0 : decide ((0 : Int) < (ks.length : Int)) = false := by simpa using h0
          have HD : Hid (deepL (vs.take (k + 1)) m = false) := by
            show _ = _
            rw [HT.out]
            simp [h0]
          go_wp2
          go_roundw
          case rel => exact ⟨k + 1, by go_num, by omega, HD.out, HBA.out _⟩
          case measure => simp [intOf]; omega
      · have e : vs.take k = vs := List.take_of_length_le (by omega)
        rw [e] at hfa
        have HD := hid_mk hfa
        have HB1 := hid_mk hB
        clear hfa hB
        go_wp2
        go_ret
        exact ⟨by rw [HD.out]; rfl, HB1.out⟩

end Go.Proofs.Ytihdiaklhkecmab
