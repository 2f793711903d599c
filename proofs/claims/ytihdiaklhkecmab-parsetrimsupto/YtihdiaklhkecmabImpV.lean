/- parse.aheadOfImportant of any values. -/
import Derived.Test.YtihdiaklhkecmabFoldW
import Derived.Test.YtihdiaklhkecmabValuesV
namespace Go.Proofs.Ytihdiaklhkecmab
open Go.RowKit
set_option maxRecDepth 100000

/-- The word important, and the sign ahead of it. -/
def isImp (x : V) : Bool := hasZ [1] x.tok.k && (foldS x.tok.tx).toList == ([105, 109, 112, 111, 114, 116, 97, 110, 116] : List UInt8)
def isBang (x : V) : Bool := hasZ [9] x.tok.k && x.tok.tx.toList == ([33] : List UInt8)
/-- What is ahead of the sign and the word, if it ends so. -/
def impZ (vs : List V) : List V × Bool :=
  match vs.getLast? with
  | none => (vs, false)
  | some x => if isImp x then
      (match (aheadZ vs.dropLast).getLast? with
       | none => (vs, false)
       | some y => if isBang y then (aheadZ (aheadZ vs.dropLast).dropLast, true) else (vs, false))
    else (vs, false)
theorem impZ_nil : impZ [] = ([], false) := rfl
theorem impZ_no (r : List V) (x : V) (h : isImp x = false) : impZ (r ++ [x]) = (r ++ [x], false) := by
  unfold impZ
  simp [h]
theorem impZ_none (r : List V) (x : V) (h : isImp x = true) (h2 : aheadZ r = []) : impZ (r ++ [x]) = (r ++ [x], false) := by
  unfold impZ
  simp [h, h2]
theorem impZ_notb (r r2 : List V) (x y : V) (h : isImp x = true) (h2 : aheadZ r = r2 ++ [y]) (h3 : isBang y = false) : impZ (r ++ [x]) = (r ++ [x], false) := by
  unfold impZ
  simp [h, h2, h3]
theorem impZ_yes (r r2 : List V) (x y : V) (h : isImp x = true) (h2 : aheadZ r = r2 ++ [y]) (h3 : isBang y = true) : impZ (r ++ [x]) = (aheadZ r2, true) := by
  unfold impZ
  simp [h, h2, h3]
/-- The last value's cells. -/
theorem VsAt.last {P : Nat → Prop} {W : World} {v : Value} {r : List V} {tk : Int} {tx un : ByteArray} {wh fl : Bool} {xk : List V} (h : VsAt P W v (r ++ [V.mk ⟨tk, tx, un, wh, fl⟩ xk])) : ∃ b off cap ka kc, v = .slice (some ⟨b, off, none⟩) (r.length + 1) cap ∧ r.length + 1 ≤ cap ∧ cap ≤ 9223372036854775807 ∧ VsAt P W (.slice (some ⟨b, off, none⟩) r.length cap) r ∧
    ∀ w', Below W.heap.size W w' → w'.cell? ⟨b, off + r.length * 6, none⟩ = some (.int .i64 tk) ∧ w'.cell? ⟨b, off + r.length * 6 + 1, none⟩ = some (.string tx) ∧ w'.cell? ⟨b, off + r.length * 6 + 2, none⟩ = some (.string un) ∧ w'.cell? ⟨b, off + r.length * 6 + 3, none⟩ = some (.bool wh) ∧ w'.cell? ⟨b, off + r.length * 6 + 4, none⟩ = some (.bool fl) ∧ w'.cell? ⟨b, off + r.length * 6 + 5, none⟩ = some (.slice ka xk.length kc) := by
  obtain ⟨a, cap, rfl, hl, hcap⟩ := h.slice
  have hll : (r ++ [V.mk ⟨tk, tx, un, wh, fl⟩ xk]).length = r.length + 1 := by simp
  have ht := h.take r.length (by omega)
  rw [show (r ++ [V.mk ⟨tk, tx, un, wh, fl⟩ xk]).take r.length = r by simp] at ht
  obtain ⟨_, _, _, hcs⟩ := h.cells
  obtain ⟨b, off, kv, rfl, hbl, hcc, hkid⟩ := hcs r.length (by omega)
  have hgx : (r ++ [V.mk ⟨tk, tx, un, wh, fl⟩ xk])[r.length]'(by omega) = V.mk ⟨tk, tx, un, wh, fl⟩ xk := by simp
  rw [hgx] at hcc hkid
  obtain ⟨ka, kc, rfl, _, _⟩ := hkid.slice
  refine ⟨b, off, cap, ka, kc, by rw [hll], by omega, hcap, ht, fun w' hw' => ?_⟩
  have hq := fun j y hy => (hw'.cell (p := ⟨b, off + r.length * 6 + j, none⟩) hbl).trans (hcc j y hy)
  exact ⟨hq 0 _ rfl, hq 1 _ rfl, hq 2 _ rfl, hq 3 _ rfl, hq 4 _ rfl, hq 5 _ rfl⟩
set_option maxHeartbeats 2000000 in
theorem imp_any {P : Nat → Prop} {W : World} {v : Value} {vs : List V} (hv : VsAt P W v vs) (hn : vs.length ≤ 1000000000) (hsz : ∀ x ∈ vs, x.tok.tx.size ≤ 140737488355328) :
    Calls Try.prog 33 #[v] W fun e w' => ∃ out, e = .returned (.tuple #[out, .bool (impZ vs).2]) ∧ VsAt P w' out (impZ vs).1 ∧ Below W.heap.size W w' := by
  rcases List.eq_nil_or_concat vs with rfl | ⟨r, x, rfl⟩
  · obtain ⟨a, cap, rfl, _, _⟩ := hv.slice
    have HV := hid_mk hv
    clear hv hsz
    go_enter Try.func33, Try.ntmps33
    go_wp2
    go_ret2
    exact ⟨_, rfl, HV.out, Below.refl _ _⟩
  · rw [List.concat_eq_append] at hv hn hsz
    rw [List.concat_eq_append]
    obtain ⟨⟨tk, tx, un, wh, fl⟩, xk⟩ := x
    have hs1 : tx.size ≤ 140737488355328 := hsz _ (List.mem_append_right _ (List.mem_singleton.2 rfl))
    have HV := hid_mk hv
    obtain ⟨b, off, cap, ka, kc, rfl, hl, hcap, htk, hq⟩ := hv.last
    have HQ := hid_mk hq
    have HTK := hid_mk htk
    obtain ⟨q0, q1, q2, q3, q4, q5⟩ := hq W (Below.refl _ _)
    have hi1 := fun w => is_lit [1] (by decide) w tk tx un wh fl (.slice ka xk.length kc)
    have hfo := fun w => foldw_any tx w hs1
    have HI1 : Hid (isImp (V.mk ⟨tk, tx, un, wh, fl⟩ xk) = (hasZ [1] tk && (foldS tx).toList == ([105, 109, 112, 111, 114, 116, 97, 110, 116] : List UInt8))) := (rfl : _ = _)
    generalize hasZ [1] tk = y1 at *
    generalize foldS tx = fs at *
    have hln : (r ++ [V.mk ⟨tk, tx, un, wh, fl⟩ xk]).length = r.length + 1 := by simp
    rw [hln] at hn
    have hneg : decide ((r.length : Int) < 0) = false := decide_eq_false (by omega)
    clear hv hq htk hsz hln
    go_enter Try.func33, Try.ntmps33
    go_wp2_with (go_at_call 17; fail)
    refine (hi1 _).mono ?_
    rintro e w1 ⟨rfl, hb1⟩
    clear q0 q1 q2 q3 q4 q5 hi1
    cases y1 with
    | false =>
      have HN := hid_mk (impZ_no r _ (HI1.out.trans (by rfl)))
      go_wp2
      go_ret2
      exact ⟨_, by rw [HN.out]; rfl, by rw [HN.out]; exact HV.out.keep hb1, hb1⟩
    | true =>
      obtain ⟨q0, q1, q2, q3, q4, q5⟩ := HQ.out w1 hb1
      go_wp2_with (go_at_call 34; fail)
      refine (hfo _).mono ?_
      rintro e w2 ⟨rfl, hb2⟩
      have hB2 : Below W.heap.size W w2 := hb1.trans (hb2.mono hb1.size)
      clear q0 q1 q2 q3 q4 q5 hfo hb1 hb2
      by_cases hf : (fs.toList == ([105, 109, 112, 111, 114, 116, 97, 110, 116] : List UInt8)) = true
      · have HI3 : Hid (isImp (V.mk ⟨tk, tx, un, wh, fl⟩ xk) = true) := by
          show _ = _
          rw [HI1.out, hf]
          rfl
        clear HI1
        have hah := aheadOfSpace_any (HTK.out.keep hB2) (by omega)
        go_wp2_with (go_at_call 24; fail)
        refine hah.mono ?_
        rintro e w3 ⟨o3, rfl, ho3, hb3⟩
        have hB3 : Below W.heap.size W w3 := hB2.trans (hb3.mono hB2.size)
        clear hah hB2 hb3
        rcases List.eq_nil_or_concat (aheadZ r) with e3 | ⟨r2, x2, e3⟩
        · have HN := hid_mk (impZ_none r _ HI3.out e3)
          rw [e3] at ho3
          obtain ⟨a3, c3, rfl, _, _⟩ := ho3.slice
          clear ho3 e3
          go_wp2
          go_ret2
          exact ⟨_, by rw [HN.out]; rfl, by rw [HN.out]; exact HV.out.keep hB3, hB3⟩
        · rw [List.concat_eq_append] at e3
          obtain ⟨⟨tk2, tx2, un2, wh2, fl2⟩, xk2⟩ := x2
          have HE3 := hid_mk e3
          have hle := aheadZ_le r
          have hr2 : r2.length + 1 ≤ r.length := by rw [e3] at hle; simpa using hle
          rw [e3] at ho3
          obtain ⟨b3, off3, cap3, ka3, kc3, rfl, hl3, hcap3, htk3, hq3⟩ := ho3.last
          have HQ3 := hid_mk hq3
          have HTK3 := hid_mk htk3
          obtain ⟨q0, q1, q2, q3, q4, q5⟩ := hq3 w3 (Below.refl _ _)
          have hi2 := fun w => is_lit [9] (by decide) w tk2 tx2 un2 wh2 fl2 (.slice ka3 xk2.length kc3)
          have HI4 : Hid (isBang (V.mk ⟨tk2, tx2, un2, wh2, fl2⟩ xk2) = (hasZ [9] tk2 && tx2.toList == ([33] : List UInt8))) := (rfl : _ = _)
          generalize hasZ [9] tk2 = y2 at *
          have hneg2 : decide ((r2.length : Int) < 0) = false := decide_eq_false (by omega)
          clear ho3 hq3 htk3 e3 hle
          go_wp2_with (go_at_call 17; fail)
          refine (hi2 _).mono ?_
          rintro e w4 ⟨rfl, hb4⟩
          have hB4 : Below W.heap.size W w4 := hB3.trans (hb4.mono hB3.size)
          clear q0 q1 q2 q3 q4 q5 hi2
          cases y2 with
          | false =>
            have HN := hid_mk (impZ_notb r r2 _ _ HI3.out HE3.out (HI4.out.trans (by rfl)))
            go_wp2
            go_ret2
            exact ⟨_, by rw [HN.out]; rfl, by rw [HN.out]; exact HV.out.keep hB4, hB4⟩
          | true =>
            obtain ⟨q0, q1, q2, q3, q4, q5⟩ := HQ3.out w4 hb4
            by_cases hg : (tx2.toList == ([33] : List UInt8)) = true
            · have HN := hid_mk (impZ_yes r r2 (V.mk ⟨tk, tx, un, wh, fl⟩ xk) (V.mk ⟨tk2, tx2, un2, wh2, fl2⟩ xk2) HI3.out HE3.out (by rw [HI4.out, hg]; rfl))
              have hah := aheadOfSpace_any (HTK3.out.keep hb4) (by omega)
              clear HI4
              go_wp2_with (go_at_call 24; fail)
              refine hah.mono ?_
              rintro e w5 ⟨o5, rfl, ho5, hb5⟩
              have HO5 := hid_mk ho5
              obtain ⟨a5, c5, rfl, _, _⟩ := ho5.slice
              clear hah ho5
              go_wp2
              go_ret2
              exact ⟨_, by rw [HN.out]; rfl, by rw [HN.out]; exact HO5.out, hB4.trans (hb5.mono hB4.size)⟩
            · have zg : (tx2.toList == ([33] : List UInt8)) = false := by simpa using hg
              have HN := hid_mk (impZ_notb r r2 (V.mk ⟨tk, tx, un, wh, fl⟩ xk) (V.mk ⟨tk2, tx2, un2, wh2, fl2⟩ xk2) HI3.out HE3.out (by rw [HI4.out, zg]; rfl))
              clear HI4 hg
              go_wp2
              go_ret2
              exact ⟨_, by rw [HN.out]; rfl, by rw [HN.out]; exact HV.out.keep hB4, hB4⟩
      · have zf : (fs.toList == ([105, 109, 112, 111, 114, 116, 97, 110, 116] : List UInt8)) = false := by simpa using hf
        have HN := hid_mk (impZ_no r (V.mk ⟨tk, tx, un, wh, fl⟩ xk) (by rw [HI1.out, zf]; rfl))
        clear HI1 hf
        go_wp2
        go_ret2
        exact ⟨_, by rw [HN.out]; rfl, by rw [HN.out]; exact HV.out.keep hB2, hB2⟩

end Go.Proofs.Ytihdiaklhkecmab
