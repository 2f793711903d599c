/- parse.decl of any values, at least one. -/
import Derived.Test.YtihdiaklhkecmabImpV
namespace Go.Proofs.Ytihdiaklhkecmab
open Go.RowKit
set_option maxRecDepth 100000

/-- The first value's cells, and those behind it. -/
theorem VsAt.head {P : Nat → Prop} {W : World} {v : Value} {r : List V} {tk : Int} {tx un : ByteArray} {wh fl : Bool} {xk : List V} (h : VsAt P W v (V.mk ⟨tk, tx, un, wh, fl⟩ xk :: r)) : ∃ b off cap ka kc, v = .slice (some ⟨b, off, none⟩) (r.length + 1) cap ∧ r.length + 1 ≤ cap ∧ cap ≤ 9223372036854775807 ∧ VsAt P W (.slice (if cap = 1 then some ⟨b, off, none⟩ else some ⟨b, off + 6, none⟩) r.length (cap - 1)) r ∧
    ∀ w', Below W.heap.size W w' → w'.cell? ⟨b, off, none⟩ = some (.int .i64 tk) ∧ w'.cell? ⟨b, off + 1, none⟩ = some (.string tx) ∧ w'.cell? ⟨b, off + 2, none⟩ = some (.string un) ∧ w'.cell? ⟨b, off + 3, none⟩ = some (.bool wh) ∧ w'.cell? ⟨b, off + 4, none⟩ = some (.bool fl) ∧ w'.cell? ⟨b, off + 5, none⟩ = some (.slice ka xk.length kc) := by
  obtain ⟨a, cap, rfl, hl, hcap⟩ := h.slice
  have h0 := h
  obtain ⟨_, _, _, hcs⟩ := h.cells
  obtain ⟨b, off, kv, rfl, hbl, hcc, hkid⟩ := hcs 0 (by simp)
  simp only [Nat.zero_mul, Nat.add_zero, List.getElem_cons_zero] at hcc hkid
  obtain ⟨ka, kc, rfl, _, _⟩ := hkid.slice
  rw [List.length_cons] at hl
  refine ⟨b, off, cap, ka, kc, rfl, hl, hcap, h0.dropO 1 (by simp) (by simp) rfl (fun h => by simp only [List.length_cons] at h; rw [if_neg (by omega)]), fun w' hw' => ?_⟩
  have hq := fun j y hy => (hw'.cell (p := ⟨b, off + j, none⟩) hbl).trans (hcc j y hy)
  exact ⟨hq 0 _ rfl, hq 1 _ rfl, hq 2 _ rfl, hq 3 _ rfl, hq 4 _ rfl, hq 5 _ rfl⟩
/-- A declaration: its name, its value, and whether it is important. -/
def declZ (x : V) (r : List V) : Option (ByteArray × List V × Bool) :=
  if hasZ [1] x.tok.k then
    match r.dropWhile spaceV with
    | [] => none
    | y :: r2 => if hasZ [16] y.tok.k then some (foldS x.tok.tx, (impZ (aheadZ (r2.dropWhile spaceV))).1, (impZ (aheadZ (r2.dropWhile spaceV))).2) else none
  else none
def DeclSaid (B : Nat) (e : Ending) (w : World) : Option (ByteArray × List V × Bool) → Prop
  | none => e = .returned (.tuple #[.agg #[.string ⟨#[]⟩, .slice none 0 0, .bool false], .bool false])
  | some d => ∃ out, e = .returned (.tuple #[.agg #[.string d.1, out, .bool d.2.2], .bool true]) ∧ VsAt (fun b => B ≤ b) w out d.2.1
theorem impZ_sub (vs : List V) : ∀ y ∈ (impZ vs).1, y ∈ vs := by
  have ha : ∀ (l : List V), ∀ y ∈ aheadZ l, y ∈ l := fun l y hy => by
    unfold aheadZ at hy
    exact List.mem_reverse.1 ((List.dropWhile_sublist spaceV).subset (List.mem_reverse.1 hy))
  intro y hy
  unfold impZ at hy
  split at hy
  · exact hy
  · split at hy
    · split at hy
      · exact hy
      · split at hy
        · exact (List.dropLast_sublist _).subset (ha _ _ ((List.dropLast_sublist _).subset (ha _ _ hy)))
        · exact hy
    · exact hy
theorem impZ_len (vs : List V) : (impZ vs).1.length ≤ vs.length := by
  unfold impZ
  split
  · exact Nat.le_refl _
  · split
    · split
      · exact Nat.le_refl _
      · split
        · have h1 := aheadZ_le (aheadZ vs.dropLast).dropLast
          have h2 := aheadZ_le vs.dropLast
          simp only [List.length_dropLast] at h1 h2
          simp only
          omega
        · exact Nat.le_refl _
    · exact Nat.le_refl _
theorem impZ_most (vs : List V) (h : vs.length ≤ 1000000000) (hk : ∀ y ∈ vs, V.most y.kids) : V.most (impZ vs).1 := .mk _ (Nat.le_trans (impZ_len vs) h) (fun y hy => hk y (impZ_sub vs y hy))
set_option maxHeartbeats 2000000 in
theorem decl_any {P : Nat → Prop} {W : World} {v : Value} {x : V} {r : List V} (hv : VsAt P W v (x :: r)) (hm : V.most (x :: r)) (hsz : ∀ y ∈ x :: r, y.tok.tx.size ≤ 140737488355328) :
    Calls Try.prog 23 #[v] W fun e w' => DeclSaid W.heap.size e w' (declZ x r) ∧ Below W.heap.size W w' := by
  have hn := hm.len
  obtain ⟨⟨tk, tx, un, wh, fl⟩, xk⟩ := x
  have hs1 : tx.size ≤ 140737488355328 := hsz _ (List.mem_cons_self ..)
  obtain ⟨b, off, cap, ka, kc, rfl, hl, hcap, ht, hq⟩ := hv.head
  have HQ := hid_mk hq
  rw [List.length_cons] at hn
  have HV := hid_mk hv
  have HBS : Hid (∀ sl w', Below W.heap.size W w' → VsAt P W sl r → Calls Try.prog 25 #[sl] w' fun e w'' => ∃ out, e = .returned out ∧ VsAt P w'' out (r.dropWhile spaceV) ∧ Below w'.heap.size w' w'') := fun sl w' hw' hsl => behindSpace_any (hsl.keep hw') (by omega)
  have hi1 := fun w => is_lit [1] (by decide) w tk tx un wh fl (.slice ka xk.length kc)
  have hfo := fun w => foldw_any tx w hs1
  have HDZ : Hid (declZ (V.mk ⟨tk, tx, un, wh, fl⟩ xk) r = if hasZ [1] tk then (match r.dropWhile spaceV with | [] => none | y :: r2 => if hasZ [16] y.tok.k then some (foldS tx, (impZ (aheadZ (r2.dropWhile spaceV))).1, (impZ (aheadZ (r2.dropWhile spaceV))).2) else none) else none) := (rfl : _ = _)
  generalize hasZ [1] tk = y1 at *
  generalize foldS tx = fs at *
  have HM := hid_mk hm
  have HS := hid_mk hsz
  clear hv hq ht hm hsz
  go_enter Try.func23, Try.ntmps23
  have hWR : Below W.heap.size W (W.alloc (.cells #[.string ⟨#[]⟩, .slice none 0 0, .bool false] 41)) := (Below.refl _ W).alloc (Nat.le_refl _) _
  have hxr := heap_alloc_new W (.cells #[.string ⟨#[]⟩, .slice none 0 0, .bool false] 41)
  have hsR : (W.alloc (.cells #[.string ⟨#[]⟩, .slice none 0 0, .bool false] 41)).heap.size = W.heap.size + 1 := by simp
  go_wp2_with (go_at_call 25; fail)
  all_goals
    generalize W.alloc (.cells #[.string ⟨#[]⟩, .slice none 0 0, .bool false] 41) = WR at *
    have HWR := hid_mk hWR
    have HXR : Hid (∀ w', Below WR.heap.size WR w' → (w'.cell? ⟨W.heap.size, 0, none⟩ = some (.string ⟨#[]⟩) ∧ w'.cell? ⟨W.heap.size, 1, none⟩ = some (.slice none 0 0) ∧ w'.cell? ⟨W.heap.size, 2, none⟩ = some (.bool false)) ∧ w'.frozen? ⟨W.heap.size, 0, none⟩ = false ∧ w'.frozen? ⟨W.heap.size, 1, none⟩ = false ∧ w'.frozen? ⟨W.heap.size, 2, none⟩ = false) := fun w' hw' => by
      have h := (hw'.block W.heap.size (by omega)).trans hxr
      exact ⟨⟨by simp [World.cell?, h], by simp [World.cell?, h], by simp [World.cell?, h]⟩, by simp [World.frozen?, h], by simp [World.frozen?, h], by simp [World.frozen?, h]⟩
    first
      | (have hc01 : cap = 1 := by omega
         subst hc01
         refine (HBS.out _ _ hWR (HV.out.dropA 1 (by simp) ⟨b, off, none⟩ r.length 0 (by simp) (by simp) (fun h => by exfalso; simp only [List.length_cons] at h; omega))).mono ?_)
      | refine (HBS.out _ _ hWR (HV.out.dropA 1 (by simp) ⟨b, off + 6, none⟩ r.length (cap - 1) (by simp) (by simp) (fun h => rfl))).mono ?_
    rintro e w1 ⟨o1, rfl, ho1, hb1⟩
    clear HBS hxr hWR
    have HBW : Hid (∀ w', Below WR.heap.size WR w' → Below W.heap.size W w') := fun w' hw' => HWR.out.trans (hw'.mono HWR.out.size)
    have hl1 : (r.dropWhile spaceV).length ≤ r.length := (List.dropWhile_sublist spaceV (l := r)).length_le
    have HSB : Hid (∀ y ∈ r.dropWhile spaceV, y.tok.tx.size ≤ 140737488355328 ∧ V.most y.kids) := fun y hy => ⟨HS.out y (List.mem_cons_of_mem _ ((List.dropWhile_sublist spaceV).subset hy)), HM.out.kid (List.mem_cons_of_mem _ ((List.dropWhile_sublist spaceV).subset hy))⟩
    generalize r.dropWhile spaceV = rs at *
    obtain ⟨q0, q1, q2, q3, q4, q5⟩ := HQ.out w1 (HBW.out _ hb1)
    obtain ⟨a1, c1, rfl, _, _⟩ := ho1.slice
    have HO1 := hid_mk ho1
    clear ho1
    go_wp2_with (go_at_call 17; fail)
    refine (hi1 _).mono ?_
    rintro e w2 ⟨rfl, hb2⟩
    have hB2 : Below WR.heap.size WR w2 := hb1.trans (hb2.mono hb1.size)
    have HO2 := hid_mk (HO1.out.keep hb2)
    clear q0 q1 q2 q3 q4 q5 hi1 HO1
    cases y1 with
    | false =>
      have HN : Hid (declZ (V.mk ⟨tk, tx, un, wh, fl⟩ xk) r = none) := by
        show _ = _
        rw [HDZ.out, if_neg (by decide)]
      obtain ⟨⟨k0, k1, k2⟩, f0, f1, f2⟩ := HXR.out w2 hB2
      clear HDZ hfo
      go_wp2
      refine bodyPost_ret (v := .tuple #[.agg #[.string ⟨#[]⟩, .slice none 0 0, .bool false], .bool false]) (by simp [results, Try.results23, go_sem, k0, k1, k2]) rfl ⟨by rw [HN.out]; exact rfl, ((((HBW.out _ hB2).setCell (p := ⟨W.heap.size, 0, none⟩) (Nat.le_refl _) _).setCell (p := ⟨W.heap.size, 1, none⟩) (Nat.le_refl _) _).setCell (p := ⟨W.heap.size, 2, none⟩) (Nat.le_refl _) _)⟩
    | true =>
      cases rs with
      | nil =>
        have HN : Hid (declZ (V.mk ⟨tk, tx, un, wh, fl⟩ xk) r = none) := by
          show _ = _
          rw [HDZ.out, if_pos rfl]
        obtain ⟨⟨k0, k1, k2⟩, f0, f1, f2⟩ := HXR.out w2 hB2
        clear HDZ hfo
        go_wp2
        refine bodyPost_ret (v := .tuple #[.agg #[.string ⟨#[]⟩, .slice none 0 0, .bool false], .bool false]) (by simp [results, Try.results23, go_sem, k0, k1, k2]) rfl ⟨by rw [HN.out]; exact rfl, ((((HBW.out _ hB2).setCell (p := ⟨W.heap.size, 0, none⟩) (Nat.le_refl _) _).setCell (p := ⟨W.heap.size, 1, none⟩) (Nat.le_refl _) _).setCell (p := ⟨W.heap.size, 2, none⟩) (Nat.le_refl _) _)⟩
      | cons y r2 =>
        obtain ⟨⟨tk2, tx2, un2, wh2, fl2⟩, xk2⟩ := y
        have HDY : Hid (declZ (V.mk ⟨tk, tx, un, wh, fl⟩ xk) r = if hasZ [16] tk2 then some (fs, (impZ (aheadZ (r2.dropWhile spaceV))).1, (impZ (aheadZ (r2.dropWhile spaceV))).2) else none) := by
          show _ = _
          rw [HDZ.out, if_pos rfl]
          rfl
        have ho2 := HO2.out
        obtain ⟨b2, off2, cap2, ka2, kc2, esl, hl2, hcap2, _, hq2⟩ := ho2.head
        have e1 : a1 = some ⟨b2, off2, none⟩ := by injection esl
        have e2 : c1 = cap2 := by injection esl
        subst e1 e2
        obtain ⟨q0, q1, q2, q3, q4, q5⟩ := hq2 w2 (Below.refl _ _)
        have hi2 := fun w => is_lit [16] (by decide) w tk2 tx2 un2 wh2 fl2 (.slice ka2 xk2.length kc2)
        generalize hasZ [16] tk2 = y2 at *
        simp only [List.length_cons] at hl1
        simp only [List.length_cons]
        clear HDZ ho2 hq2 esl
        go_wp2_with (go_at_call 17; fail)
        all_goals
          refine (hi2 _).mono ?_
          rintro e w3 ⟨rfl, hb3⟩
          have hB3 : Below WR.heap.size WR w3 := hB2.trans (hb3.mono hB2.size)
          have HO3 := hid_mk (HO2.out.keep hb3)
          clear q0 q1 q2 q3 q4 q5 hi2 HO2
          cases y2 with
          | false =>
            have HN : Hid (declZ (V.mk ⟨tk, tx, un, wh, fl⟩ xk) r = none) := by
              show _ = _
              rw [HDY.out, if_neg (by decide)]
            obtain ⟨⟨k0, k1, k2⟩, f0, f1, f2⟩ := HXR.out w3 hB3
            clear HDY hfo
            go_wp2
            refine bodyPost_ret (v := .tuple #[.agg #[.string ⟨#[]⟩, .slice none 0 0, .bool false], .bool false]) (by simp [results, Try.results23, go_sem, k0, k1, k2]) rfl ⟨by rw [HN.out]; exact rfl, ((((HBW.out _ hB3).setCell (p := ⟨W.heap.size, 0, none⟩) (Nat.le_refl _) _).setCell (p := ⟨W.heap.size, 1, none⟩) (Nat.le_refl _) _).setCell (p := ⟨W.heap.size, 2, none⟩) (Nat.le_refl _) _)⟩
          | true =>
            have HN : Hid (declZ (V.mk ⟨tk, tx, un, wh, fl⟩ xk) r = some (fs, (impZ (aheadZ (r2.dropWhile spaceV))).1, (impZ (aheadZ (r2.dropWhile spaceV))).2)) := by
              show _ = _
              rw [HDY.out, if_pos rfl]
            have HTR : Hid (∀ sl, VsAt P w3 sl r2 → Calls Try.prog 14 #[sl] w3 fun e w'' => ∃ out, e = .returned out ∧ VsAt P w'' out (aheadZ (r2.dropWhile spaceV)) ∧ Below w3.heap.size w3 w'') := fun sl h => trimmed_any h (by omega)
            have hld : (r2.dropWhile spaceV).length ≤ r2.length := (List.dropWhile_sublist spaceV (l := r2)).length_le
            have hla := aheadZ_le (r2.dropWhile spaceV)
            have HSA : Hid (∀ y ∈ aheadZ (r2.dropWhile spaceV), y.tok.tx.size ≤ 140737488355328 ∧ V.most y.kids) := fun y hy => HSB.out y (List.mem_cons_of_mem _ ((List.dropWhile_sublist spaceV).subset (by
              unfold aheadZ at hy
              have := (List.dropWhile_sublist spaceV).subset (List.mem_reverse.1 hy)
              exact List.mem_reverse.1 this)))
            generalize aheadZ (r2.dropWhile spaceV) = ts at *
            clear HDY
            go_wp2_with (go_at_call 14; fail)
            all_goals
              first
                | (have hc01 : c1 = 1 := by omega
                   subst hc01
                   refine (HTR.out _ (HO3.out.dropA 1 (by simp) ⟨b2, off2, none⟩ r2.length 0 (by simp) (by simp) (fun h => by exfalso; simp only [List.length_cons] at h; omega))).mono ?_)
                | refine (HTR.out _ (HO3.out.dropA 1 (by simp) ⟨b2, off2 + 6, none⟩ r2.length (c1 - 1) (by simp) (by simp) (fun h => rfl))).mono ?_
              rintro e w4 ⟨o4, rfl, ho4, hb4⟩
              have hB4 : Below WR.heap.size WR w4 := hB3.trans (hb4.mono hB3.size)
              have him := imp_any ho4 (by omega) (fun y hy => (HSA.out y hy).1)
              obtain ⟨a4, c4, rfl, _, _⟩ := ho4.slice
              clear HTR ho4 HO3
              go_wp2_with (go_at_call 33; fail)
              refine him.mono ?_
              rintro e w5 ⟨o5, rfl, ho5, hb5⟩
              have hB5 : Below WR.heap.size WR w5 := hB4.trans (hb5.mono hB4.size)
              have HIM : Hid (V.most (impZ ts).1) := impZ_most ts (by omega) (fun y hy => (HSA.out y hy).2)
              generalize (impZ ts).1 = iv at *
              generalize (impZ ts).2 = ib at *
              obtain ⟨a5, c5, rfl, _, _⟩ := ho5.slice
              have HO5 := hid_mk ho5
              clear ho5 him hb4 hb5
              obtain ⟨q0, q1, q2, q3, q4, q5⟩ := HQ.out w5 (HBW.out _ hB5)
              go_wp2_with (go_at_call 34; fail)
              refine (hfo _).mono ?_
              rintro e w6 ⟨rfl, hb6⟩
              have hB6 : Below WR.heap.size WR w6 := hB5.trans (hb6.mono hB5.size)
              have how := own_any HO5.out w6 hb6 HIM.out
              clear q0 q1 q2 q3 q4 q5 hfo
              go_wp2_with (go_at_call 13; fail)
              refine how.mono ?_
              rintro e w7 ⟨o7, rfl, ho7, hb7⟩
              have hB7 : Below WR.heap.size WR w7 := hB6.trans (hb7.mono hB6.size)
              obtain ⟨⟨k0, k1, k2⟩, f0, f1, f2⟩ := HXR.out w7 hB7
              obtain ⟨a7, c7, rfl, _, _⟩ := ho7.slice
              have HO7 := hid_mk ho7
              have hs6 := hB6.size
              clear ho7 how
              go_wp2
              refine bodyPost_ret (v := .tuple #[.agg #[.string fs, .slice a7 iv.length c7, .bool ib], .bool true]) (by simp [results, Try.results23, go_sem, k0, k1, k2]) rfl ⟨by rw [HN.out]; exact ⟨_, rfl, (HO7.out.stay (by simp) (fun b hb _ => by
                rw [Below.heap_setCell _ _ _ _ (by show b ≠ W.heap.size; omega), Below.heap_setCell _ _ _ _ (by show b ≠ W.heap.size; omega), Below.heap_setCell _ _ _ _ (by show b ≠ W.heap.size; omega)])).wider (fun b hb _ => by omega)⟩, ((((HBW.out _ hB7).setCell (p := ⟨W.heap.size, 0, none⟩) (Nat.le_refl _) _).setCell (p := ⟨W.heap.size, 1, none⟩) (Nat.le_refl _) _).setCell (p := ⟨W.heap.size, 2, none⟩) (Nat.le_refl _) _)⟩

end Go.Proofs.Ytihdiaklhkecmab
