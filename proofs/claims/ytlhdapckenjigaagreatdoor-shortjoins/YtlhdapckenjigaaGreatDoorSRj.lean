/- The document's Join. -/
import Derived.Test.YtlhdapckenjigaaGreatDoorSLv
namespace Go.Proofs.YtlhdapckenjigaaGreatDoor.S
open Go.RowKit
open Go.Proofs.YtlhdapckenjigaaGreatDoor.L (T5 V VsAt t5Cells vCells cell_of_heap hid_mk cellAt set_at)
open Go.Proofs.YtlhdapckenjigaaGreatDoor.P (Bx StrAt)
set_option maxRecDepth 100000

theorem list_ne {s t : ByteArray} (h : ¬ s = t) : (s.toList == t.toList) = false := by
  cases hx : (s.toList == t.toList) with
  | false => rfl
  | true =>
    exfalso
    apply h
    have h1 := P.str_of hx
    have h2 := P.str_of (show (t.toList == t.toList) = true by simp)
    rw [h1, ← h2]
def atS (l : List ByteArray) (k : Nat) : ByteArray := l.getD k ⟨#[]⟩
/-- Do the first i longhands have the values that n parts come to? -/
def okJ (name : ByteArray) (l : List ByteArray) (n i : Nat) : Bool := decide (∀ j, j < i → atS l (whichZ name n j).toNat = atS l j)
theorem okJ_zero (name : ByteArray) (l : List ByteArray) (n : Nat) : okJ name l n 0 = true := decide_eq_true (fun j hj => by omega)
theorem okJ_succ (name : ByteArray) (l : List ByteArray) (n i : Nat) : okJ name l n (i + 1) = (okJ name l n i && decide (atS l (whichZ name n i).toNat = atS l i)) := by
  unfold okJ
  rw [Bool.eq_iff_iff, Bool.and_eq_true, decide_eq_true_eq, decide_eq_true_eq, decide_eq_true_eq]
  constructor
  · intro h
    exact ⟨fun j hj => h j (by omega), h i (by omega)⟩
  · rintro ⟨h1, h2⟩ j hj
    rcases Nat.lt_or_ge j i with h | h
    · exact h1 j h
    · obtain rfl : j = i := by omega
      exact h2
theorem ball2 {p : Nat → Prop} : (∀ j, j < 2 → p j) ↔ p 0 ∧ p 1 := ⟨fun h => ⟨h 0 (by omega), h 1 (by omega)⟩, fun h j hj => by
  have : j = 0 ∨ j = 1 := by omega
  rcases this with rfl | rfl
  · exact h.1
  · exact h.2⟩
theorem ball4 {p : Nat → Prop} : (∀ j, j < 4 → p j) ↔ p 0 ∧ p 1 ∧ p 2 ∧ p 3 := ⟨fun h => ⟨h 0 (by omega), h 1 (by omega), h 2 (by omega), h 3 (by omega)⟩, fun h j hj => by
  have : j = 0 ∨ j = 1 ∨ j = 2 ∨ j = 3 := by omega
  rcases this with rfl | rfl | rfl | rfl
  · exact h.1
  · exact h.2.1
  · exact h.2.2.1
  · exact h.2.2.2⟩
theorem whO {name : ByteArray} (h : (name.toList == [111, 118, 101, 114, 102, 108, 111, 119]) = true) (n i : Nat) (hn : n ≤ 2) : whichZ name n i = (i : Int) * ((n : Int) - 1) := by
  unfold whichZ
  rw [if_pos h, if_neg (by omega)]
theorem whS {name : ByteArray} (h : (name.toList == [111, 118, 101, 114, 102, 108, 111, 119]) = false) (n i : Nat) : whichZ name n i = sidesZ n i := by
  unfold whichZ
  rw [if_neg (by rw [h]; simp)]
theorem ok_two {name : ByteArray} (h : (name.toList == [111, 118, 101, 114, 102, 108, 111, 119]) = true) (a b : ByteArray) (n : Nat) (h1 : 1 ≤ n) (h2 : n ≤ 2) : okJ name [a, b] n 2 = decide (spL ([a, b].take n) = spL [a, b]) := by
  unfold okJ
  rw [Bool.eq_iff_iff, decide_eq_true_eq, decide_eq_true_eq, ball2, whO h n 0 h2, whO h n 1 h2]
  have : n = 1 ∨ n = 2 := by omega
  rcases this with rfl | rfl
  · show (a = a ∧ a = b) ↔ [a, a, a, a] = [a, b, a, b]
    simp
  · show (a = a ∧ b = b) ↔ [a, b, a, b] = [a, b, a, b]
    simp
theorem ok_four {name : ByteArray} (h : (name.toList == [111, 118, 101, 114, 102, 108, 111, 119]) = false) (a b c d : ByteArray) (n : Nat) (h1 : 1 ≤ n) (h2 : n ≤ 4) : okJ name [a, b, c, d] n 4 = decide (spL ([a, b, c, d].take n) = spL [a, b, c, d]) := by
  unfold okJ
  rw [Bool.eq_iff_iff, decide_eq_true_eq, decide_eq_true_eq, ball4, whS h n 0, whS h n 1, whS h n 2, whS h n 3]
  have : n = 1 ∨ n = 2 ∨ n = 3 ∨ n = 4 := by omega
  rcases this with rfl | rfl | rfl | rfl
  · show (a = a ∧ a = b ∧ a = c ∧ a = d) ↔ [a, a, a, a] = [a, b, c, d]
    simp
  · show (a = a ∧ b = b ∧ a = c ∧ b = d) ↔ [a, b, a, b] = [a, b, c, d]
    simp
  · show (a = a ∧ b = b ∧ c = c ∧ b = d) ↔ [a, b, c, b] = [a, b, c, d]
    simp
  · show (a = a ∧ b = b ∧ c = c ∧ d = d) ↔ [a, b, c, d] = [a, b, c, d]
    simp
theorem ok_sp {name : ByteArray} {l : List ByteArray} (hl : l.length = (P.lgs name).length) (n : Nat) (h1 : 1 ≤ n) (h2 : n ≤ l.length) : okJ name l n l.length = decide (spL (l.take n) = spL l) := by
  rcases lgs_len name with ⟨h, _⟩ | ⟨h, hO⟩ | ⟨h, hO⟩
  · rw [h] at hl; simp at hl; rw [hl] at h2; simp at h2; omega
  · rw [h] at hl
    match l, hl with
    | [a, b], _ => exact ok_two hO a b n h1 h2
  · rw [h] at hl
    match l, hl with
    | [a, b, c, d], _ => exact ok_four hO a b c d n h1 h2
/-- As the document puts the parts together. -/
def addJ (s x : ByteArray) : ByteArray := s ++ (⟨#[32]⟩ ++ x)
theorem join_fold : ∀ (r : List ByteArray) (x : ByteArray), joinS (x :: r) = r.foldl addJ x
  | [], x => by
    unfold joinS
    rw [List.map_cons, List.map_nil, Lib.join_one, List.foldl_nil]
  | y :: r, x => by
    rw [List.foldl_cons, ← join_fold r (addJ x y)]
    unfold joinS addJ
    congr 2
    simp only [List.map_cons, Lib.join_cons, Lib.joinTail, List.flatten_cons, ByteArray.data_append, Array.toList_append, List.append_assoc]
theorem addJ_size (s x : ByteArray) : (addJ s x).size = s.size + 1 + x.size := by
  unfold addJ
  rw [ByteArray.size_append, ByteArray.size_append]
  show s.size + (1 + x.size) = _
  omega
theorem fold_size : ∀ (r : List ByteArray) (x : ByteArray), (∀ y ∈ r, y.size ≤ 1000000) → (r.foldl addJ x).size ≤ x.size + r.length * 1000001
  | [], x, _ => by simp
  | y :: r, x, h => by
    have h1 := fold_size r (addJ x y) (fun z hz => h z (by simp [hz]))
    have h2 := h y (by simp)
    rw [addJ_size] at h1
    rw [List.foldl_cons, List.length_cons]
    omega
theorem which_in {name : ByteArray} {n i L : Nat} (hl : L = (P.lgs name).length) (h1 : 1 ≤ n) (h2 : n ≤ L) (h3 : i < L) : 0 ≤ whichZ name n i ∧ (whichZ name n i).toNat < n := by
  rcases lgs_len name with ⟨h, _⟩ | ⟨h, hO⟩ | ⟨h, hO⟩
  · rw [h] at hl; simp at hl; omega
  · rw [whO hO n i (by omega)]
    have hn : n = 1 ∨ n = 2 := by omega
    have hi : i = 0 ∨ i = 1 := by omega
    rcases hn with rfl | rfl <;> rcases hi with rfl | rfl <;> decide
  · rw [whS hO n i]
    have := sides_lt (n := n) (i := i) h1 (by omega) (by omega)
    omega
theorem least_fold (l : List ByteArray) (k : Nat) (h1 : 1 ≤ k) (h2 : k ≤ l.length) : joinS (l.take k) = ((l.take k).drop 1).foldl addJ (atS l 0) := by
  cases l with
  | nil => simp at h2; omega
  | cons x r =>
    obtain ⟨m, rfl⟩ : ∃ m, k = m + 1 := ⟨k - 1, by omega⟩
    rw [List.take_succ_cons, join_fold]
    rfl
set_option maxHeartbeats 8000000 in
theorem rjoin_any {W : World} {v : Value} {l : List ByteArray} (name : ByteArray) (h : SsAt W v l) (hz : ∀ x ∈ l, x.size ≤ 1000000) :
    Calls Tryz.prog 16 #[.string name, v] W fun e w' => e = .returned (Z.res (joinO name l)) ∧ Below W.heap.size W w' := by
  have hlg := P.rlongs_any name W
  have HR : Hid (joinO name l = if (P.lgs name).length = 0 ∨ l.length ≠ (P.lgs name).length then none else some (joinS (l.take (leastN l l.length 1)))) := rfl
  have hN := lgs_len name
  have HOK : Hid (l.length = (P.lgs name).length → ∀ n, 1 ≤ n → n ≤ l.length → okJ name l n l.length = decide (spL (l.take n) = spL l)) := fun hl n h1 h2 => ok_sp hl n h1 h2
  have HWL : Hid (l.length = (P.lgs name).length → ∀ n i : Nat, 1 ≤ n → n ≤ l.length → i < l.length → 0 ≤ whichZ name n i ∧ (whichZ name n i).toNat < n) := fun hl n i h1 h2 h3 => which_in hl h1 h2 h3
  have HWH : Hid (∀ w (n i : Nat), n ≤ 1000 → i ≤ 1000 → Calls Tryz.prog 33 #[.string name, .int .i64 (n : Int), .int .i64 (i : Int)] w fun e w' => e = .returned (.int .i64 (whichZ name n i)) ∧ w' = w) := fun w n i h1 h2 => which_any name n i (by omega) (by omega) w
  obtain ⟨a, c, g, o, rfl, hc, hcm, ha, hcell⟩ := h
  have HLF : Hid (∀ k, 1 ≤ k → k ≤ l.length → joinS (l.take k) = ((l.take k).drop 1).foldl addJ (atS l 0)) := fun k h1 h2 => least_fold l k h1 h2
  generalize joinO name l = R at *
  generalize P.lgs name = N at *
  generalize hll : l.length = L at *
  have HLL := hid_mk hll
  clear hll
  go_enter Tryz.func16, Tryz.ntmps16
  go_wp2_with (go_at_call 32; fail)
  refine hlg.mono ?_
  rintro e w1 ⟨⟨na, nn, nc, rfl, hnn, _⟩, hb1⟩
  have HB1 := hid_mk hb1
  have hnn4 : nn = 0 ∨ nn = 2 ∨ nn = 4 := by
    rcases hN with ⟨e, _⟩ | ⟨e, _⟩ | ⟨e, _⟩
    · left; rw [hnn, e]; rfl
    · right; left; rw [hnn, e]
    · right; right; rw [hnn, e]
  have HNN := hid_mk hnn
  clear hlg hb1 hnn hN
  by_cases h0 : nn = 0
  · have HRR : Hid (R = none) := by show _ = _; rw [HR.out, if_pos (.inl (by rw [← HNN.out]; exact h0))]
    have z0 : ((nn : Int) == 0) = true := by simp [h0]
    clear HR
    go_wp2
    go_ret2
    exact ⟨by rw [HRR.out]; rfl, HB1.out⟩
  have z0 : ((nn : Int) == 0) = false := by simpa using h0
  by_cases h1 : L = nn
  · have z1 : ((L : Int) != (nn : Int)) = false := by simp [h1]
    have HRR : Hid (R = some (joinS (l.take (leastN l L 1)))) := by show _ = _; rw [HR.out, if_neg (by rw [← HNN.out]; omega)]
    have HOK2 : Hid (∀ n, 1 ≤ n → n ≤ L → okJ name l n L = decide (spL (l.take n) = spL l)) := HOK.out (by rw [← HNN.out]; exact h1)
    have HWL2 : Hid (∀ n i : Nat, 1 ≤ n → n ≤ L → i < L → 0 ≤ whichZ name n i ∧ (whichZ name n i).toNat < n) := HWL.out (by rw [← HNN.out]; exact h1)
    subst h1
    clear HR HNN HOK HWL
    obtain ⟨rfl, hg⟩ := ha (by omega)
    have HC : Hid (∀ w, Below W.heap.size W w → ∀ k, k < L → w.cell? ⟨g, o + k, none⟩ = some (.string (atS l k))) := fun w hb k hk => by
      have h5 := hcell k (atS l k) (by unfold atS; simp [List.getD, HLL.out, hk])
      exact (hb.cell (p := ⟨g, o + k, none⟩) (P.lt_of_cell h5)).trans h5
    have HZ : Hid (∀ k, (atS l k).size ≤ 1000000) := fun k => by
      rcases Nat.lt_or_ge k l.length with h | h
      · have e : atS l k = l[k] := by unfold atS; simp [List.getD, h]
        rw [e]
        exact hz _ (List.getElem_mem h)
      · have e : atS l k = ⟨#[]⟩ := by unfold atS; simp [List.getD, List.getElem?_eq_none h]
        rw [e]
        decide
    clear ha hcell hz
    go_wp2
    go_loopw [7] (fun a7 wr => ∃ k : Nat, (1 ≤ k ∧ k ≤ L) ∧ a7 = .int .i64 (k : Int) ∧ Hid (Below W.heap.size W wr ∧ leastN l L 1 = leastN l (L + 1 - k) k)) (fun a7 _ => L + 1 - (intOf a7).toNat)
    case atStart => exact ⟨1, ⟨by omega, by omega⟩, rfl, HB1.out, rfl⟩
    case round =>
      obtain ⟨k, ⟨hk1, hkL⟩, rfl, HJ⟩ := hrel
      have hdk : decide ((k : Int) ≤ (L : Int)) = true := decide_eq_true (by omega)
      have HLS : Hid (leastN l (L + 1 - k) k = if spL (l.take k) = spL l then k else leastN l (L - k) (k + 1)) := by
        show _ = _
        rw [show L + 1 - k = (L - k) + 1 by omega]
        rfl
      have hwr : IntKind.i64.wrap ((k : Int) + 1) = ((k + 1 : Nat) : Int) := by rw [IntKind.wrap_i64]; omega
      go_wp2
      go_loopw [8, 34] (fun a8 a34 ws => ∃ i : Nat, i ≤ L ∧ a8 = .bool (okJ name l k i) ∧ a34 = .int .i64 (i : Int) ∧ Hid (Below W.heap.size W ws)) (fun _ a34 _ => L + 1 - (intOf a34).toNat)
      case atStart => exact ⟨0, Nat.zero_le _, by rw [okJ_zero], rfl, HJ.out.1⟩
      case round =>
        obtain ⟨i, hi, rfl, rfl, HI⟩ := hrel
        by_cases hlt : i < L
        · have hd : decide ((i : Int) < (L : Int)) = true := decide_eq_true (by omega)
          have hwh := HWH.out wr k i (by omega) (by omega)
          obtain ⟨m1, m2⟩ := HWL2.out k i hk1 hkL hlt
          obtain ⟨m, hm⟩ : ∃ m : Nat, whichZ name k i = (m : Int) := ⟨(whichZ name k i).toNat, by omega⟩
          have HSC : Hid (okJ name l k (i + 1) = (okJ name l k i && decide (atS l m = atS l i))) := by
            have h := okJ_succ name l k i
            rw [hm] at h
            exact h
          rw [hm] at hwh m2
          have hmL : m < L := by omega
          have r1 := HC.out wr HI.out m hmL
          have r2 := HC.out wr HI.out i hlt
          have hbq := ba_beq (atS l m) (atS l i)
          generalize okJ name l k i = ok at *
          generalize atS l m = sm at *
          generalize atS l i = si at *
          clear m1 hm m2
          go_wp2_with (go_at_call 33; fail)
          refine hwh.mono ?_
          rintro e w' ⟨rfl, rfl⟩
          clear hwh
          have HDR : Hid (∀ nq, Below W.heap.size W (w'.drewN nq)) := fun nq => HI.out.trans ⟨rfl, rfl, rfl, Nat.le_refl _, fun _ _ => rfl⟩
          cases ok with
          | false =>
            have HO2 : Hid (okJ name l k (i + 1) = false) := by show _ = _; rw [HSC.out]; rfl
            clear HSC
            go_upto_region 12 with (fail)
            go_quiet (fail)
            go_wp2
            exact ⟨⟨i + 1, by omega, by rw [HO2.out], rfl, HDR.out nq⟩, by simp only [intOf]; omega⟩
          | true =>
            by_cases hq : sm = si
            · have HO2 : Hid (okJ name l k (i + 1) = true) := by show _ = _; rw [HSC.out, decide_eq_true hq]; rfl
              have hb1 : (sm.toList == si.toList) = true := by rw [hq]; simp
              clear HSC hbq
              go_upto_region 12 with (fail)
              go_quiet (fail)
              go_wp2
              exact ⟨⟨i + 1, by omega, by rw [HO2.out], rfl, HDR.out nq⟩, by simp only [intOf]; omega⟩
            · have HO2 : Hid (okJ name l k (i + 1) = false) := by show _ = _; rw [HSC.out, decide_eq_false hq]; rfl
              have hb1 : (sm.toList == si.toList) = false := list_ne hq
              clear HSC hbq
              go_upto_region 12 with (fail)
              go_quiet (fail)
              go_wp2
              exact ⟨⟨i + 1, by omega, by rw [HO2.out], rfl, HDR.out nq⟩, by simp only [intOf]; omega⟩
        · have hd : decide ((i : Int) < (L : Int)) = false := decide_eq_false (by omega)
          have hil : i = L := by omega
          subst hil
          have HOKK : Hid (okJ name l k i = decide (spL (l.take k) = spL l)) := HOK2.out k hk1 hkL
          by_cases hq : spL (l.take k) = spL l
          · have HOT : Hid (okJ name l k i = true) := by show _ = _; rw [HOKK.out, decide_eq_true hq]
            have HLE : Hid (leastN l i 1 = k) := by show _ = _; rw [HJ.out.2, HLS.out, if_pos hq]
            generalize okJ name l k i = ok at *
            have hot := HOT.out
            subst hot
            have r0 := HC.out wr HI.out 0 (by omega)
            rw [Nat.add_zero] at r0
            have HTL : Hid (((l.take k).drop 1).length = k - 1) := by
              show _ = _
              rw [List.length_drop, List.length_take, HLL.out]
              omega
            have HTI : Hid (∀ j, j < k - 1 → ((l.take k).drop 1)[j]? = some (atS l (j + 1))) := fun j hj => by
              rw [List.getElem?_drop, List.getElem?_take, if_pos (by omega), Nat.add_comm 1 j]
              unfold atS
              simp [List.getD, HLL.out, show j + 1 < i by omega]
            have HRK : Hid (R = some (((l.take k).drop 1).foldl addJ (atS l 0))) := by
              show _ = _
              rw [HRR.out, HLE.out, HLF.out k hk1 hkL]
            have HFS : Hid (∀ j, (((((l.take k).drop 1).take j).foldl addJ (atS l 0)).size ≤ 1000000 + j * 1000001)) := fun j => by
              refine Nat.le_trans (fold_size _ _ (fun y hy => ?_)) ?_
              · obtain ⟨q, hq1, rfl⟩ := List.getElem_of_mem (List.mem_of_mem_take hy)
                have hq2 : q < k - 1 := by rw [HTL.out] at hq1; exact hq1
                have h := HTI.out q hq2
                rw [List.getElem?_eq_getElem hq1] at h
                rw [Option.some.inj h]
                exact HZ.out _
              · have h1 := HZ.out 0
                have h2 : (((l.take k).drop 1).take j).length ≤ j := by rw [List.length_take]; omega
                have h3 := Nat.mul_le_mul_right 1000001 h2
                omega
            generalize (l.take k).drop 1 = tl at *
            have g1 : k ≤ c := by omega
            have g2 : 1 ≤ k := hk1
            have g3 : ¬ c = 1 := by omega
            have had : (⟨g, o, none⟩ : Addr).add 1 = ⟨g, o + 1, none⟩ := add_none g o 1
            generalize hkk : k - 1 = kk at *
            have hkk2 : kk ≤ 4 := by omega
            go_wp2
            go_loopw [11, 62] (fun a11 a62 wt => ∃ j : Nat, j ≤ kk ∧ a11 = .string ((tl.take j).foldl addJ (atS l 0)) ∧ a62 = .int .i64 (j : Int) ∧ Hid (wt = wr)) (fun _ a62 _ => kk + 1 - (intOf a62).toNat)
            case atStart => exact ⟨0, Nat.zero_le _, rfl, rfl, rfl⟩
            case round =>
              obtain ⟨j, hj, rfl, rfl, HE⟩ := hrel
              have hE := HE.out
              subst hE
              by_cases hlj : j < kk
              · have hdj : decide ((j : Int) < (kk : Int)) = true := decide_eq_true (by omega)
                have hcj := HC.out wr HI.out (j + 1) (by omega)
                rw [show o + (j + 1) = o + 1 + j by omega] at hcj
                have HNX : Hid ((tl.take (j + 1)).foldl addJ (atS l 0) = (tl.take j).foldl addJ (atS l 0) ++ (⟨#[32]⟩ ++ atS l (j + 1))) := by
                  show _ = _
                  rw [take_snoc (HTI.out j hlj), List.foldl_append]
                  rfl
                have hs1 := HFS.out j
                have hs2 := HZ.out (j + 1)
                generalize (tl.take j).foldl addJ (atS l 0) = s at *
                generalize atS l (j + 1) = x at *
                have hsx : ((⟨#[32]⟩ : ByteArray) ++ x).size ≤ 1000001 := by rw [ByteArray.size_append]; show 1 + x.size ≤ _; omega
                go_wp2
                exact ⟨⟨j + 1, by omega, by rw [HNX.out], rfl, trivial⟩, by simp only [intOf]; omega⟩
              · have hdj : decide ((j : Int) < (kk : Int)) = false := decide_eq_false (by omega)
                have HRE : Hid (R = some ((tl.take j).foldl addJ (atS l 0))) := by
                  show _ = _
                  rw [HRK.out, List.take_of_length_le (by rw [HTL.out]; omega)]
                generalize (tl.take j).foldl addJ (atS l 0) = s at *
                go_wp2
                go_ret2
                exact ⟨by rw [HRE.out]; rfl, HI.out⟩
          · have HOT : Hid (okJ name l k i = false) := by show _ = _; rw [HOKK.out, decide_eq_false hq]
            have HLE : Hid (leastN l i 1 = leastN l (i + 1 - (k + 1)) (k + 1)) := by
              show _ = _
              rw [HJ.out.2, HLS.out, if_neg hq, show i + 1 - (k + 1) = i - k by omega]
            have hkl2 : k < i := by
              rcases Nat.lt_or_ge k i with h | h
              · exact h
              · exfalso
                apply hq
                rw [List.take_of_length_le (by rw [HLL.out]; exact h)]
            generalize okJ name l k i = ok at *
            have hot := HOT.out
            subst hot
            go_wp2
            exact ⟨⟨k + 1, ⟨by omega, by omega⟩, rfl, HI.out, HLE.out⟩, by simp only [intOf]; omega⟩
  · have z1 : ((L : Int) != (nn : Int)) = true := by simp; omega
    have HRR : Hid (R = none) := by show _ = _; rw [HR.out, if_pos (.inr (by rw [← HNN.out]; exact h1))]
    clear HR
    go_wp2
    go_ret2
    exact ⟨by rw [HRR.out]; rfl, HB1.out⟩
end Go.Proofs.YtlhdapckenjigaaGreatDoor.S
