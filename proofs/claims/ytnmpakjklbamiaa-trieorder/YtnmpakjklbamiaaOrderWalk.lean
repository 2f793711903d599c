/- TrieOrder: the walk. -/
import Derived.Test.YtnmpakjklbamiaaArgs
import Derived.Test.YtnmpakjklbamiaaOpsI
import Derived.Deep.RegionHeld3
namespace Go.Proofs.Ytnmpakjklbamiaa
open Go.RowKit I
set_option maxRecDepth 100000

/-- Just the numbers of the list that may be are there, each for itself. -/
def HasL (t : T) (ys : List Int) : Prop := ∀ m, getV t m = if m ∈ ys ∧ inR m then some (.int .i64 m) else none
theorem HasL.put {t t' : T} {ys : List Int} {n : Int} (h : HasL t ys) (hp : ∀ m, getV t' m = if m = n ∧ inR n then some (.int .i64 n) else getV t m) : HasL t' (n :: ys) := by
  intro m
  rw [hp, h m]
  by_cases e : m = n
  · subst e
    by_cases hr : inR m
    · rw [if_pos ⟨rfl, hr⟩, if_pos ⟨by simp, hr⟩]
    · rw [if_neg (fun h => hr h.2), if_neg (fun h => hr h.2), if_neg (fun h => hr h.2)]
  · rw [if_neg (fun h => e h.1)]
    by_cases hm : m ∈ ys ∧ inR m
    · rw [if_pos hm, if_pos ⟨by simp [hm.1], hm.2⟩]
    · rw [if_neg hm, if_neg]
      rintro ⟨h1, h2⟩
      rcases List.mem_cons.1 h1 with h1 | h1
      · exact e h1
      · exact hm ⟨h1, h2⟩
theorem HasL.of_mem {t : T} {ys zs : List Int} (h : HasL t ys) (e : ∀ m, m ∈ ys ↔ m ∈ zs) : HasL t zs := fun m => by
  rw [h m]
  by_cases hm : m ∈ ys ∧ inR m
  · rw [if_pos hm, if_pos ⟨(e m).1 hm.1, hm.2⟩]
  · rw [if_neg hm, if_neg (fun hc => hm ⟨(e m).2 hc.1, hc.2⟩)]
theorem HasL.new (b : Nat) : HasL (newT b) [] := fun m => by rw [new_getV, if_neg (by simp)]
/-- Those from i on are still there at most. -/
def LeftL (t : T) (ys : List Int) : Prop := ∀ m, m ∉ ys → getV t m = none
theorem LeftL.drop {t t' : T} {ys : List Int} {n : Int} (h : LeftL t (n :: ys)) (hd : ∀ m, getV t' m = if m = n then none else getV t m) : LeftL t' ys := fun m hm => by
  rw [hd]
  by_cases e : m = n
  · rw [if_pos e]
  · rw [if_neg e]
    exact h m (by simp [e, hm])

set_option maxHeartbeats 2000000 in
theorem order_walk (w : World) (a : Option Addr) (len cap : Nat) (xs : List Int) (hr : RowAt .i64 w (.slice a len cap) xs) (hm : xs.length ≤ maxLen) : Calls Try.prog 5 #[.slice a len cap] w fun e w' => e = .returned (.bool true) ∧ Below w.heap.size w w' := by
  obtain ⟨a', cap', ev, hcap, hx⟩ := hr
  cases ev
  have hm' : xs.length ≤ 9223372036854775807 := Nat.le_trans hm (by decide)
  have hlives := fun w' => lives_any w'
  have HL := hid_mk hlives
  have hnew := fun w' => I.new_any w'
  clear hlives
  by_cases hbig : 100 < xs.length
  · clear hx hnew
    go_enter Try.func5, Try.ntmps5
    go_wp2_with (go_at_call 9; refine (HL.out _).mono ?_; rintro e w1 ⟨rfl, hB1⟩)
    go_ret
    exact ⟨rfl, hB1⟩
  · have HX := hid_mk hx
    clear hx
    go_enter Try.func5, Try.ntmps5
    go_wp2_with (go_at_call 19; fail)
    refine (hnew _).mono ?_
    rintro e w1 ⟨b1, b0, rfl, _, _, hT1, hB1⟩
    go_wp2_with (go_at_call 19; fail)
    refine (hnew _).mono ?_
    rintro e w2 ⟨b2, b0', rfl, _, _, hT2, hB2⟩
    have HT1 := hid_mk (TrAt.keep hT1 hB2)
    have HT2 := hid_mk hT2
    have HB2 := hid_mk (hB1.trans (hB2.mono hB1.size))
    clear hnew hT1 hT2 hB1 hB2
    go_wp2
    go_loopw [3, 4, 23] (fun a3 a4 a23 wr => ∃ (i : Nat) (t u : T), i ≤ xs.length ∧ At wr a3 t ∧ At wr a4 u ∧ rootN t ∧ rootN u ∧ HasL t (xs.take i) ∧ HasL u (xs.drop (xs.length - i)) ∧ a23 = .int .i64 (i : Int) ∧ Below w.heap.size w wr) (fun _ _ a23 _ => xs.length + 1 - (intOf a23).toNat)
    case atStart => exact ⟨0, newT b0, newT b0', Nat.zero_le _, HT1.out, HT2.out, ⟨_, _, rfl⟩, ⟨_, _, rfl⟩, HasL.new _, by rw [Nat.sub_zero, List.drop_length]; exact HasL.new _, rfl, HB2.out⟩
    case round =>
      obtain ⟨i, t, u, hi, hT, hU, hN, hM, hHt, hHu, rfl, hB⟩ := hrel
      have HT := hid_mk hT
      have HU := hid_mk hU
      have HN := hid_mk hN
      have HM := hid_mk hM
      have HHt := hid_mk hHt
      have HHu := hid_mk hHu
      have HB := hid_mk hB
      clear HT1 HT2 HB2
      obtain ⟨bp, rfl⟩ := root_ptr hT hN
      obtain ⟨bq, rfl⟩ := root_ptr hU hM
      clear hT hU hN hM hHt hHu hB
      by_cases hlt : i < xs.length
      · obtain ⟨b, off, rfl, hblt, hcell⟩ := HX.out (by omega)
        have hc := (HB.out.cell (p := ⟨b, off + i, none⟩) hblt).trans (hcell i hlt)
        have HC2 : Hid (∀ w', Below wr.heap.size wr w' → w'.cell? ⟨b, off + (xs.length - 1 - i), none⟩ = some (.int .i64 (xs.getD (xs.length - 1 - i) 0))) := fun w' hw' => ((HB.out.trans (hw'.mono HB.out.size)).cell (p := ⟨b, off + (xs.length - 1 - i), none⟩) hblt).trans (hcell _ (by omega))
        clear hcell
        have HG1 : Hid (xs.take (i + 1) = xs.take i ++ [xs.getD i 0]) := by
          show _ = _
          rw [List.take_add_one]
          simp [List.getD, hlt]
        have HG2 : Hid (xs.drop (xs.length - (i + 1)) = xs.getD (xs.length - 1 - i) 0 :: xs.drop (xs.length - i)) := by
          show _ = _
          have hj : xs.length - (i + 1) < xs.length := by omega
          rw [List.drop_eq_getElem_cons hj]
          have e1 : xs.length - (i + 1) + 1 = xs.length - i := by omega
          have e2 : xs.length - 1 - i = xs.length - (i + 1) := by omega
          rw [e1, e2]
          simp [List.getD, hj]
        generalize xs.getD i 0 = k at hc HG1
        generalize xs.getD (xs.length - 1 - i) 0 = k2 at HC2 HG2
        have hp : ∀ w', Below wr.heap.size wr w' → Calls Try.prog 20 #[.pointer (some ⟨bp, 0, none⟩), .int .i64 k, .int .i64 k] w' fun e w'' => ∃ tp' t', e = .returned tp' ∧ At w'' tp' t' ∧ rootN t' ∧ HasL t' (k :: xs.take i) ∧ Below wr.heap.size wr w'' := fun w' hw' => (put_c (TrAt.keep HT.out hw') k k).mono fun e w'' ⟨tp', t', he, hT', hN', hG, _, _, hB'⟩ => ⟨tp', t', he, hT', hN' HN.out, HHt.out.put hG, hw'.trans (hB'.mono hw'.size)⟩
        have HP := hid_mk hp
        have HF : Hid (∀ w', Below wr.heap.size wr w' → w'.cell? ⟨b, off + i, none⟩ = some (.int .i64 k)) := fun w' hw' => ((HB.out.trans (hw'.mono HB.out.size)).cell (p := ⟨b, off + i, none⟩) hblt).trans ((HB.out.cell (p := ⟨b, off + i, none⟩) hblt).symm.trans hc)
        have gd : Below wr.heap.size wr wr.drew := below_drew _ _
        clear hp hc HX
        go_wp2
        go_region_held3 (fun w' => w'.cell? ⟨b, off + i, none⟩ = some (.int .i64 k)) (exact HF.out _ (by assumption)) (first
          | (go_at_call 20; refine (HP.out _ ?_).mono ?_; assumption; rintro e w3 ⟨tp3, t3, rfl, hT3, hN3, hH3, g3⟩))
        all_goals
          have hc2 := HC2.out _ g3
          have HQ : Hid (∀ w', w' = w3 → Calls Try.prog 20 #[.pointer (some ⟨bq, 0, none⟩), .int .i64 k2, .int .i64 k2] w' fun e w'' => ∃ tp' t', e = .returned tp' ∧ At w'' tp' t' ∧ rootN t' ∧ HasL t' (k2 :: xs.drop (xs.length - i)) ∧ Below w3.heap.size w3 w'') := fun w' hw' => by
            subst hw'
            exact (put_c (TrAt.keep HU.out g3) k2 k2).mono fun e w'' ⟨tp', t', he, hT', hN', hG, _, _, hB'⟩ => ⟨tp', t', he, hT', hN' HM.out, HHu.out.put hG, hB'⟩
          have hi1 : (0 : Int) ≤ (xs.length : Int) - 1 - (i : Int) := by omega
          have hi2 : (xs.length : Int) - 1 - (i : Int) < (xs.length : Int) := by omega
          have hi3 : ((xs.length : Int) - 1 - (i : Int)).toNat = xs.length - 1 - i := by omega
          clear HC2 HP HF gd
          obtain ⟨b3, rfl⟩ := root_ptr hT3 hN3
          go_wp2_with (go_at_call 20; refine (HQ.out _ rfl).mono ?_; rintro e w4 ⟨tp4, t4, rfl, hT4, hN4, hH4, hB4⟩)
          exact ⟨⟨i + 1, t3, t4, by omega, TrAt.keep hT3 hB4, hT4, hN3, hN4, hH3.of_mem (fun m => by rw [HG1.out]; simp [or_comm]), by rw [HG2.out]; exact hH4, rfl, HB.out.trans ((g3.trans (hB4.mono g3.size)).mono HB.out.size)⟩, by simp only [intOf]; omega⟩
      · obtain rfl : i = xs.length := by omega
        have hHt := HHt.out
        have hHu := HHu.out
        rw [List.take_length] at hHt
        rw [Nat.sub_self, List.drop_zero] at hHu
        obtain ⟨c1, s1⟩ := same_get HN.out HM.out HT.out.wf HU.out.wf HT.out.pr HU.out.pr (fun m => by rw [hHt m, hHu m])
        have HH1 := hid_mk hHt
        have HH2 := hid_mk hHu
        have h1 := len_any HT.out
        have h2 := len_any HU.out
        have h3 := nodes_any HT.out
        have h4 := nodes_any HU.out
        rw [← s1] at h2
        rw [← c1] at h4
        clear hHt hHu HHt HHu hlt c1 s1
        generalize szT t = Z at *
        generalize cntT t = C at *
        go_wp2_with (first
          | (go_at_call 21; refine h1.mono ?_; clear h1; rintro e w3 ⟨rfl, rfl⟩)
          | (go_at_call 21; refine h2.mono ?_; clear h2; rintro e w3 ⟨rfl, rfl⟩)
          | (go_at_call 22; refine h3.mono ?_; clear h3; rintro e w3 ⟨rfl, rfl⟩)
          | (go_at_call 22; refine h4.mono ?_; clear h4; rintro e w3 ⟨rfl, rfl⟩))
        have HGT : Hid (∀ w', Below w3.heap.size w3 w' → ∀ x, Calls Try.prog 23 #[.pointer (some ⟨bp, 0, none⟩), .int .i64 x] w' fun e w'' => e = .returned (.tuple #[(getV t x).getD (.int .i64 0), .bool (getV t x).isSome]) ∧ Below w3.heap.size w3 w'') := fun w' hw' x => (get_c (TrAt.keep HT.out hw') x).mono fun e w'' ⟨he, hb⟩ => ⟨he, hw'.trans (hb.mono hw'.size)⟩
        have HGU : Hid (∀ w', Below w3.heap.size w3 w' → ∀ x, Calls Try.prog 23 #[.pointer (some ⟨bq, 0, none⟩), .int .i64 x] w' fun e w'' => e = .returned (.tuple #[(getV u x).getD (.int .i64 0), .bool (getV u x).isSome]) ∧ Below w3.heap.size w3 w'') := fun w' hw' x => (get_c (TrAt.keep HU.out hw') x).mono fun e w'' ⟨he, hb⟩ => ⟨he, hw'.trans (hb.mono hw'.size)⟩
        go_loopw [63] (fun a63 wr => ∃ (j : Nat), j ≤ xs.length ∧ a63 = .int .i64 (j : Int) ∧ Below w3.heap.size w3 wr) (fun a63 _ => xs.length + 1 - (intOf a63).toNat)
        case atStart => exact ⟨0, Nat.zero_le _, rfl, Below.refl _ _⟩
        case round =>
          obtain ⟨j, hj, rfl, hBj⟩ := hrel
          by_cases hlt : j < xs.length
          · obtain ⟨b, off, rfl, hblt, hcell⟩ := HX.out (by omega)
            have hc := ((HB.out.trans (hBj.mono HB.out.size)).cell (p := ⟨b, off + j, none⟩) hblt).trans (hcell j hlt)
            have hmem : xs.getD j 0 ∈ xs := by simp [List.getD, hlt]
            have g1 := HH1.out (xs.getD j 0)
            have g2 := HH2.out (xs.getD j 0)
            clear hcell
            generalize xs.getD j 0 = x at *
            have HBJ := hid_mk hBj
            clear hBj HX
            by_cases hx : inR x
            · rw [if_pos ⟨hmem, hx⟩] at g1 g2
              have k1 := HGT.out _ HBJ.out x
              have HK2 : Hid (∀ w', Below w3.heap.size w3 w' → _) := fun w' hw' => HGU.out w' hw' x
              rw [g1] at k1
              rw [g2] at HK2
              have hx1 : 0 ≤ x := hx.1
              have hx2 : x < 1048576 := hx.2
              clear hx g1 g2 HGT HGU HBJ hmem
              go_wp2_with (first
                | (go_at_call 23; refine k1.mono ?_; clear k1; rintro e w5 ⟨rfl, hB5⟩)
                | (go_at_call 23; refine (HK2.out _ hB5).mono ?_; clear HK2; rintro e w6 ⟨rfl, hB6⟩))
              exact ⟨⟨j + 1, by omega, rfl, hB6⟩, by simp only [intOf]; omega⟩
            · rw [if_neg (fun h => hx h.2)] at g1 g2
              have k1 := HGT.out _ HBJ.out x
              have HK2 : Hid (∀ w', Below w3.heap.size w3 w' → _) := fun w' hw' => HGU.out w' hw' x
              rw [g1] at k1
              rw [g2] at HK2
              have hx1 : x < 0 ∨ (0 ≤ x ∧ 1048576 ≤ x) := by unfold inR at hx; omega
              clear hx g1 g2 HGT HGU HBJ hmem
              rcases hx1 with hx1 | ⟨hx1, hx2⟩
              all_goals
                go_wp2_with (first
                  | (go_at_call 23; refine k1.mono ?_; clear k1; rintro e w5 ⟨rfl, hB5⟩)
                  | (go_at_call 23; refine (HK2.out _ hB5).mono ?_; clear HK2; rintro e w6 ⟨rfl, hB6⟩))
                exact ⟨⟨j + 1, by omega, rfl, hB6⟩, by simp only [intOf]; omega⟩
          · obtain rfl : j = xs.length := by omega
            have HBJ := hid_mk hBj
            clear hBj hlt HGT HGU
            go_wp2
            go_loopw [3, 108] (fun a3 a108 wr' => ∃ (j : Nat) (t' : T), j ≤ xs.length ∧ a108 = .int .i64 (j : Int) ∧ At wr' a3 t' ∧ rootN t' ∧ LeftL t' (xs.drop j) ∧ Below w.heap.size w wr') (fun _ a108 _ => xs.length + 1 - (intOf a108).toNat)
            case atStart => exact ⟨0, t, Nat.zero_le _, rfl, TrAt.keep HT.out HBJ.out, HN.out, fun m hm => by rw [HH1.out m, if_neg (fun h => hm h.1)], HB.out.trans (HBJ.out.mono HB.out.size)⟩
            case round =>
              obtain ⟨j, t', hj, rfl, hT', hN', hL', hB'⟩ := hrel
              obtain ⟨bt, rfl⟩ := root_ptr hT' hN'
              have HT' := hid_mk hT'
              have HN' := hid_mk hN'
              have HL' := hid_mk hL'
              have HB' := hid_mk hB'
              clear hT' hN' hL' hB'
              by_cases hlt : j < xs.length
              · obtain ⟨b, off, rfl, hblt, hcell⟩ := HX.out (by omega)
                have hc := (HB'.out.cell (p := ⟨b, off + j, none⟩) hblt).trans (hcell j hlt)
                have HG : Hid (xs.drop j = xs.getD j 0 :: xs.drop (j + 1)) := by
                  show _ = _
                  rw [List.drop_eq_getElem_cons hlt]
                  simp [List.getD, hlt]
                clear hcell HX
                generalize xs.getD j 0 = x at *
                have hd := drop_c HT'.out x
                go_wp2_with (go_at_call 24; refine hd.mono ?_; clear hd; rintro e w5 ⟨tp5, t5, rfl, hT5, hN5, hG5, _, _, _, hB5⟩)
                exact ⟨⟨j + 1, t5, by omega, rfl, hT5, hN5 HN'.out, LeftL.drop (by rw [← HG.out]; exact HL'.out) hG5, HB'.out.trans (hB5.mono HB'.out.size)⟩, by simp only [intOf]; omega⟩
              · obtain rfl : j = xs.length := by omega
                have hno : ∀ m, getV t' m = none := fun m => HL'.out m (by rw [List.drop_length]; simp)
                obtain ⟨c1, s1⟩ := none_get HN'.out HT'.out.wf HT'.out.pr hno
                have h1 := len_any HT'.out
                have h2 := nodes_any HT'.out
                rw [s1] at h1
                rw [c1] at h2
                clear c1 s1 hno hlt HX
                go_wp2_with (first
                  | (go_at_call 21; refine h1.mono ?_; clear h1; rintro e w5 ⟨rfl, rfl⟩)
                  | (go_at_call 22; refine h2.mono ?_; clear h2; rintro e w5 ⟨rfl, rfl⟩)
                  | (go_at_call 9; refine (HL.out _).mono ?_; rintro e w6 ⟨rfl, hB6⟩))
                go_ret
                exact ⟨rfl, HB'.out.trans (hB6.mono HB'.out.size)⟩

end Go.Proofs.Ytnmpakjklbamiaa
