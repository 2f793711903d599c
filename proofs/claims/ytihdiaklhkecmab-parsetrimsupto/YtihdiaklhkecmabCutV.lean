/- parse.behindAt, behindSpace, aheadOfSpace, trimmed. -/
import Derived.Test.YtihdiaklhkecmabIsV
namespace Go.Proofs.Ytihdiaklhkecmab
open Go.RowKit
set_option maxRecDepth 100000

/-- A list of kinds that a call was given one by one. -/
theorem row_lit (w : World) (ks : List Int) (hk : ks.length ≤ 100000) : RowAt .i64 (w.alloc (.cells (ks.map (Value.int .i64)).toArray 3)) (.slice (some ⟨w.heap.size, 0, none⟩) ks.length ks.length) ks := by
  have h := World.ownsRow_lit (base := w.heap.size) (e := 3) (size := 1) w (ks.map (Value.int .i64)).toArray ks.length (Nat.le_refl _) (by unfold maxLen; omega) (by simp)
  exact RowAt.own (by simpa using h)
theorem VsAt.dropA {P : Nat → Prop} {W : World} {b off n cap : Nat} {vs : List V} (h : VsAt P W (.slice (some ⟨b, off, none⟩) n cap) vs) (k : Nat) (hk : k ≤ vs.length) (a' : Addr) (n' c' : Nat) (hn : n' = n - k) (hc : c' = cap - k) (ha : k < vs.length → a' = ⟨b, off + k * 6, none⟩) : VsAt P W (.slice (some a') n' c') (vs.drop k) := by
  subst hn hc
  exact h.drop k hk (some a') (fun h => ⟨b, off, rfl, congrArg some (ha h)⟩)
theorem VsAt.dropO {P : Nat → Prop} {W : World} {b off n cap : Nat} {vs : List V} (h : VsAt P W (.slice (some ⟨b, off, none⟩) n cap) vs) (k : Nat) (hk : k ≤ vs.length) {a' : Option Addr} {n' c' : Nat} (hn : n' = n - k) (hc : c' = cap - k) (ha : k < vs.length → a' = some ⟨b, off + k * 6, none⟩) : VsAt P W (.slice a' n' c') (vs.drop k) := by
  subst hn hc
  exact h.drop k hk a' (fun h => ⟨b, off, rfl, ha h⟩)
set_option maxHeartbeats 1000000 in
theorem behindAt_any {P : Nat → Prop} {w : World} {v : Value} {vs : List V} (hv : VsAt P w v vs) (hn : vs.length ≤ 1000000000) :
    Calls Try.prog 18 #[v] w fun e w' => ∃ out, e = .returned out ∧ VsAt P w' out (vs.drop (nextZ [17, 23] vs + 1)) ∧ Below w.heap.size w w' := by
  have hal : ∀ o, Below w.heap.size w (w.alloc o) := fun o => (Below.refl _ w).alloc (Nat.le_refl _) o
  have hnx := next_any (hv.keep (hal _)) (row_lit w [17, 23] (by decide)) (by decide) hn
  have hle := nextZ_le [17, 23] vs
  obtain ⟨a, cap, rfl, hl, hcap⟩ := hv.slice
  have HV := hid_mk hv
  have HF : Hid (0 < vs.length → ∃ b off, a = some ⟨b, off, none⟩) := fun h => by
    obtain ⟨_, _, _, hcs⟩ := hv.cells
    obtain ⟨b, off, kv, e, _⟩ := hcs 0 h
    exact ⟨b, off, e⟩
  clear hv
  generalize nextZ [17, 23] vs = n at *
  have HAL := hid_mk hal
  clear hal
  go_enter Try.func18, Try.ntmps18
  go_wp2_with (go_at_call 19; fail)
  refine hnx.mono ?_
  rintro e w' ⟨rfl, hB⟩
  have HB : Hid (Below w.heap.size w w') := (HAL.out _).trans (hB.mono (HAL.out _).size)
  clear hB hnx HAL
  by_cases h : n = vs.length
  · have HD : Hid (vs.drop (n + 1) = []) := List.drop_eq_nil_of_le (by omega)
    subst h
    go_wp2
    go_ret
    exact ⟨_, rfl, by rw [HD.out]; exact VsAt.nil _ _, HB.out⟩
  · obtain ⟨b, off, rfl⟩ := HF.out (by omega)
    have z : ((n : Int) == (vs.length : Int)) = false := by simp; omega
    have hlt : n + 1 ≤ vs.length := by omega
    go_wp2
    all_goals
      go_ret
      exact ⟨_, rfl, (HV.out.keep HB.out).dropA (n + 1) hlt _ _ _ (by omega) (by omega) (fun h => by first | exact addr_eq (by omega) | (exfalso; omega)), HB.out⟩

/-- Without what is a Space ahead. -/
def spaceV (x : V) : Bool := hasZ [13] x.tok.k
set_option maxHeartbeats 1000000 in
theorem behindSpace_any {P : Nat → Prop} {w : World} {v : Value} {vs : List V} (hv : VsAt P w v vs) (_hn : vs.length ≤ 1000000000) :
    Calls Try.prog 25 #[v] w fun e w' => ∃ out, e = .returned out ∧ VsAt P w' out (vs.dropWhile spaceV) ∧ Below w.heap.size w w' := by
  have his : ∀ w', Below w.heap.size w w' → ∀ tk tx un wh fl kid, Calls Try.prog 17 #[.agg #[.int .i64 tk, .string tx, .string un, .bool wh, .bool fl, kid], .slice (some ⟨w'.heap.size, 0, none⟩) 1 1] (w'.alloc (.cells #[.int .i64 13] 3)) fun e w'' => e = .returned (.bool (hasZ [13] tk)) ∧ Below w.heap.size w w'' := by
    intro w' hw tk tx un wh fl kid
    refine (is_any (row_lit w' [13] (by decide)) (by decide) tk tx un wh fl kid).mono ?_
    rintro e w'' ⟨rfl, hB⟩
    have hA : Below w.heap.size w (w'.alloc (.cells ([13].map (Value.int .i64)).toArray 3)) := hw.alloc hw.size _
    exact ⟨rfl, hA.trans (hB.mono hA.size)⟩
  have HV := hid_mk hv
  obtain ⟨a, cap, rfl, hl, hcap⟩ := hv.slice
  clear hv
  go_enter Try.func25, Try.ntmps25
  go_wp2
  go_loopw [0] (fun a0 wr => ∃ (us : List V), VsAt P w a0 us ∧ us.length ≤ vs.length ∧ Hid (vs.dropWhile spaceV = us.dropWhile spaceV) ∧ Below w.heap.size w wr) (fun a0 _ => sliceLen a0)
  case atStart => exact ⟨vs, HV.out, Nat.le_refl _, (rfl : _ = _), Below.refl _ _⟩
  case round =>
    obtain ⟨us, hus, hul, hE, hB⟩ := hrel
    cases us with
    | nil =>
      obtain ⟨a0, c0, rfl, _, _⟩ := hus.slice
      have HUS := hid_mk (hus.keep hB)
      have HW := hE.out
      rw [List.dropWhile_nil] at HW
      have HW2 := hid_mk HW
      clear hus HW hE his HV
      go_wp2
      all_goals first
        | (go_ret; exact ⟨_, rfl, by rw [HW2.out]; exact HUS.out, hB⟩)
        | trace_state
    | cons x r =>
      obtain ⟨a0, c0, rfl, hl0, hc0⟩ := hus.slice
      have HUS := hid_mk hus
      obtain ⟨_, _, _, hcs⟩ := hus.cells
      obtain ⟨b, off, kv, rfl, hbl, hcc, hkid⟩ := hcs 0 (by simp)
      have hq := fun j y hy => (hB.cell (p := ⟨b, off + 0 * 6 + j, none⟩) hbl).trans (hcc j y hy)
      simp only [Nat.zero_mul, Nat.add_zero, List.getElem_cons_zero] at hq hkid
      obtain ⟨⟨tk, tx, un, wh, fl⟩, xk⟩ := x
      obtain ⟨ka, kc, rfl, _, _⟩ := hkid.slice
      generalize (V.mk ⟨tk, tx, un, wh, fl⟩ xk).kids.length = kn at *
      have q0 : wr.cell? ⟨b, off, none⟩ = some (.int .i64 tk) := hq 0 _ rfl
      have q1 : wr.cell? ⟨b, off + 1, none⟩ = some (.string tx) := hq 1 _ rfl
      have q2 : wr.cell? ⟨b, off + 2, none⟩ = some (.string un) := hq 2 _ rfl
      have q3 : wr.cell? ⟨b, off + 3, none⟩ = some (.bool wh) := hq 3 _ rfl
      have q4 : wr.cell? ⟨b, off + 4, none⟩ = some (.bool fl) := hq 4 _ rfl
      have q5 : wr.cell? ⟨b, off + 5, none⟩ = some (.slice ka kn kc) := hq 5 _ rfl
      have hc2 := his wr hB tk tx un wh fl (.slice ka kn kc)
      have HE := hE.out
      rw [List.dropWhile_cons, show spaceV (V.mk ⟨tk, tx, un, wh, fl⟩ xk) = hasZ [13] tk from rfl] at HE
      have HE2 := hid_mk HE
      rw [List.length_cons] at hul hl0
      generalize hasZ [13] tk = y at *
      have HB := hid_mk hB
      clear hE HE hcs hcc hq hkid his hB hus HV
      simp only [List.length_cons]
      go_wp2_with (go_at_call 17; fail)
      refine hc2.mono ?_
      rintro e w' ⟨rfl, hB2⟩
      clear hc2 q0 q1 q2 q3 q4 q5
      cases y with
      | true =>
        have HR : Hid (vs.dropWhile spaceV = r.dropWhile spaceV) := by
          show _ = _
          rw [HE2.out, if_pos rfl]
        clear HE2
        go_wp2
        all_goals
          go_roundw
          case rel => exact ⟨r, HUS.out.dropO 1 (by simp) (by simp) rfl (fun h => by simp only [List.length_cons] at h; rw [if_neg (by omega)]), by omega, HR.out, hB2⟩
          case measure => simp [sliceLen]
      | false =>
        have HR : Hid (vs.dropWhile spaceV = V.mk ⟨tk, tx, un, wh, fl⟩ xk :: r) := by
          show _ = _
          rw [HE2.out, if_neg (by decide)]
        clear HE2
        go_wp2
        go_ret
        exact ⟨_, rfl, by rw [HR.out]; exact HUS.out.keep hB2, hB2⟩
/-- Without what is a Space behind. -/
def aheadZ (vs : List V) : List V := (vs.reverse.dropWhile spaceV).reverse
theorem aheadZ_nil : aheadZ [] = [] := rfl
theorem aheadZ_snoc (r : List V) (x : V) : aheadZ (r ++ [x]) = if spaceV x then aheadZ r else r ++ [x] := by
  unfold aheadZ
  rw [List.reverse_append, List.reverse_singleton, List.singleton_append, List.dropWhile_cons]
  split
  · rfl
  · simp
theorem aheadZ_le (vs : List V) : (aheadZ vs).length ≤ vs.length := by
  unfold aheadZ
  have := (List.dropWhile_sublist spaceV (l := vs.reverse)).length_le
  simpa using this
set_option maxHeartbeats 1000000 in
theorem aheadOfSpace_any {P : Nat → Prop} {w : World} {v : Value} {vs : List V} (hv : VsAt P w v vs) (_hn : vs.length ≤ 1000000000) :
    Calls Try.prog 24 #[v] w fun e w' => ∃ out, e = .returned out ∧ VsAt P w' out (aheadZ vs) ∧ Below w.heap.size w w' := by
  have his : ∀ w', Below w.heap.size w w' → ∀ tk tx un wh fl kid, Calls Try.prog 17 #[.agg #[.int .i64 tk, .string tx, .string un, .bool wh, .bool fl, kid], .slice (some ⟨w'.heap.size, 0, none⟩) 1 1] (w'.alloc (.cells #[.int .i64 13] 3)) fun e w'' => e = .returned (.bool (hasZ [13] tk)) ∧ Below w.heap.size w w'' := by
    intro w' hw tk tx un wh fl kid
    refine (is_any (row_lit w' [13] (by decide)) (by decide) tk tx un wh fl kid).mono ?_
    rintro e w'' ⟨rfl, hB⟩
    have hA : Below w.heap.size w (w'.alloc (.cells ([13].map (Value.int .i64)).toArray 3)) := hw.alloc hw.size _
    exact ⟨rfl, hA.trans (hB.mono hA.size)⟩
  have HV := hid_mk hv
  obtain ⟨a, cap, rfl, hl, hcap⟩ := hv.slice
  clear hv
  go_enter Try.func24, Try.ntmps24
  go_wp2
  go_loopw [0] (fun a0 wr => ∃ (us : List V), VsAt P w a0 us ∧ us.length ≤ vs.length ∧ Hid (aheadZ vs = aheadZ us) ∧ Below w.heap.size w wr) (fun a0 _ => sliceLen a0)
  case atStart => exact ⟨vs, HV.out, Nat.le_refl _, (rfl : _ = _), Below.refl _ _⟩
  case round =>
    obtain ⟨us, hus, hul, hE, hB⟩ := hrel
    rcases List.eq_nil_or_concat us with rfl | ⟨r, x, rfl⟩
    · obtain ⟨a0, c0, rfl, _, _⟩ := hus.slice
      have HUS := hid_mk (hus.keep hB)
      have HW := hE.out
      rw [aheadZ_nil] at HW
      have HW2 := hid_mk HW
      clear hus HW hE his HV
      go_wp2
      go_ret
      exact ⟨_, rfl, by rw [HW2.out]; exact HUS.out, hB⟩
    · rw [List.concat_eq_append] at hus hul hE
      obtain ⟨a0, c0, rfl, hl0, hc0⟩ := hus.slice
      have HUS := hid_mk hus
      obtain ⟨_, _, _, hcs⟩ := hus.cells
      have hll : (r ++ [x]).length = r.length + 1 := by simp
      obtain ⟨b, off, kv, rfl, hbl, hcc, hkid⟩ := hcs r.length (by omega)
      have hq := fun j y hy => (hB.cell (p := ⟨b, off + r.length * 6 + j, none⟩) hbl).trans (hcc j y hy)
      have hgx : (r ++ [x])[r.length]'(by omega) = x := by simp
      rw [hgx] at hq hkid
      obtain ⟨⟨tk, tx, un, wh, fl⟩, xk⟩ := x
      obtain ⟨ka, kc, rfl, _, _⟩ := hkid.slice
      generalize (V.mk ⟨tk, tx, un, wh, fl⟩ xk).kids.length = kn at *
      have q0 : wr.cell? ⟨b, off + r.length * 6, none⟩ = some (.int .i64 tk) := hq 0 _ rfl
      have q1 : wr.cell? ⟨b, off + r.length * 6 + 1, none⟩ = some (.string tx) := hq 1 _ rfl
      have q2 : wr.cell? ⟨b, off + r.length * 6 + 2, none⟩ = some (.string un) := hq 2 _ rfl
      have q3 : wr.cell? ⟨b, off + r.length * 6 + 3, none⟩ = some (.bool wh) := hq 3 _ rfl
      have q4 : wr.cell? ⟨b, off + r.length * 6 + 4, none⟩ = some (.bool fl) := hq 4 _ rfl
      have q5 : wr.cell? ⟨b, off + r.length * 6 + 5, none⟩ = some (.slice ka kn kc) := hq 5 _ rfl
      have hc2 := his wr hB tk tx un wh fl (.slice ka kn kc)
      have HE := hE.out
      rw [aheadZ_snoc, show spaceV (V.mk ⟨tk, tx, un, wh, fl⟩ xk) = hasZ [13] tk from rfl] at HE
      have HE2 := hid_mk HE
      have HTK : Hid ((r ++ [V.mk ⟨tk, tx, un, wh, fl⟩ xk]).take r.length = r) := by show _ = _; simp
      rw [hll] at hul hl0
      rw [hll]
      generalize hasZ [13] tk = y at *
      clear hE HE hcs hcc hq hkid his hB hus HV hgx
      go_wp2_with (go_at_call 17; fail)
      refine hc2.mono ?_
      rintro e w' ⟨rfl, hB2⟩
      clear hc2 q0 q1 q2 q3 q4 q5
      cases y with
      | true =>
        have HR : Hid (aheadZ vs = aheadZ r) := by
          show _ = _
          rw [HE2.out, if_pos rfl]
        have HT := HUS.out.take r.length (by omega)
        rw [HTK.out] at HT
        have HT2 := hid_mk HT
        clear HE2 HT
        go_wp2
        go_roundw
        case rel => exact ⟨r, HT2.out, by omega, HR.out, hB2⟩
        case measure => simp [sliceLen]
      | false =>
        have HR : Hid (aheadZ vs = r ++ [V.mk ⟨tk, tx, un, wh, fl⟩ xk]) := by
          show _ = _
          rw [HE2.out, if_neg (by decide)]
        have HU := HUS.out
        rw [hll] at HU
        have HU2 := hid_mk HU
        clear HE2 HU
        go_wp2
        go_ret
        exact ⟨_, rfl, by rw [HR.out]; exact HU2.out.keep hB2, hB2⟩
set_option maxHeartbeats 1000000 in
theorem trimmed_any {P : Nat → Prop} {w : World} {v : Value} {vs : List V} (hv : VsAt P w v vs) (hn : vs.length ≤ 1000000000) :
    Calls Try.prog 14 #[v] w fun e w' => ∃ out, e = .returned out ∧ VsAt P w' out (aheadZ (vs.dropWhile spaceV)) ∧ Below w.heap.size w w' := by
  have h1 := behindSpace_any hv hn
  have hle : (vs.dropWhile spaceV).length ≤ vs.length := (List.dropWhile_sublist spaceV (l := vs)).length_le
  obtain ⟨a, cap, rfl, hl, hcap⟩ := hv.slice
  clear hv
  go_enter Try.func14, Try.ntmps14
  go_wp2_with (go_at_call 25; fail)
  refine h1.mono ?_
  rintro e w1 ⟨o1, rfl, ho1, hb1⟩
  have h2 := aheadOfSpace_any ho1 (by omega)
  obtain ⟨a1, c1, rfl, _, _⟩ := ho1.slice
  clear ho1 h1
  go_wp2_with (go_at_call 24; fail)
  refine h2.mono ?_
  rintro e w2 ⟨o2, rfl, ho2, hb2⟩
  obtain ⟨a2, c2, rfl, _, _⟩ := ho2.slice
  have HO := hid_mk ho2
  clear ho2 h2
  go_wp2
  go_ret
  exact ⟨_, rfl, HO.out, hb1.trans (hb2.mono hb1.size)⟩

end Go.Proofs.Ytihdiaklhkecmab
