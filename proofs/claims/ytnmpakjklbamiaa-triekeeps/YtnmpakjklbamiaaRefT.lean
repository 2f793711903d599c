/- The document's Drop and Put of pairs, with where the pairs lie. -/
import Derived.Test.YtnmpakjklbamiaaKeep
namespace Go.Proofs.Ytnmpakjklbamiaa
open Go.RowKit
set_option maxRecDepth 100000

set_option maxHeartbeats 1000000 in
theorem rdrop_ty {W : World} {v : Value} {xs : List Pr} (hp : PsAt W v xs) (hlen : xs.length ≤ 1048576) (n : Int) : Calls Try.prog 12 #[v, .int .i64 n] W fun e w' => ∃ v', e = .returned v' ∧ PsAt w' v' (dropZ xs n) ∧ PsTy w' v' ∧ Below W.heap.size W w' := by
  obtain ⟨a, cap, rfl, hcap, hmax, hx⟩ := hp
  obtain ⟨i0, hi0, hz0, hz1, hz2⟩ := info_parts info71
  have HX := hid_mk hx
  clear hx
  go_enter Try.func12, Try.ntmps12
  go_wp2
  go_loopw [5, 10] (fun a5 a10 wr => ∃ (i : Nat) (ys : List Pr), i ≤ xs.length ∧ a10 = .int .i64 (i : Int) ∧ ys.length ≤ i ∧ Own2 W.heap.size wr a5 ys ∧ dropZ xs n = ys ++ dropZ (xs.drop i) n ∧ Below W.heap.size W wr) (fun _ a10 _ => xs.length + 1 - (intOf a10).toNat)
  case atStart => exact ⟨0, [], Nat.zero_le _, rfl, Nat.le_refl _, World.ownsRow_nil _ _ _ _, rfl, Below.refl _ _⟩
  case round =>
    obtain ⟨i, ys, hi, rfl, hyl, hO, he, hB⟩ := hrel
    have HO := hid_mk hO
    have HE := hid_mk he
    have HB := hid_mk hB
    clear he hB hO
    by_cases hlt : i < xs.length
    · obtain ⟨b, off, rfl, hblt, hc⟩ := HX.out (by omega)
      have c0 := (HB.out.cell (p := ⟨b, off + i * 2, none⟩) hblt).trans (hc i hlt).1
      have c1 := (HB.out.cell (p := ⟨b, off + i * 2 + 1, none⟩) hblt).trans (hc i hlt).2
      have HD : Hid (dropZ (xs.drop i) n = (if xs[i].1 != n then [(xs[i].1, xs[i].2)] else []) ++ dropZ (xs.drop (i + 1)) n) := by
        show _ = _
        rw [drop_getE hlt, dropZ, List.filter_cons]
        split <;> rfl
      have hal : ∀ o, Below wr.heap.size wr (wr.alloc o) := fun o => (Below.refl _ wr).alloc (Nat.le_refl _) o
      clear hc HX
      generalize xs[i].1 = m at *
      generalize xs[i].2 = s at *
      by_cases hmn : m = n
      · have HR : Hid (dropZ xs n = ys ++ dropZ (xs.drop (i + 1)) n) := by
          show _ = _
          rw [HE.out, HD.out, if_neg (by simpa using hmn), List.nil_append]
        have hne : (m != n) = false := by simpa using hmn
        go_wp2
        exact ⟨⟨i + 1, ys, by omega, rfl, by omega, ownsRow_below HO.out (hal _), HR.out, HB.out.trans ((hal _).mono HB.out.size)⟩, by simp only [intOf]; omega⟩
      · have hne : (m != n) = true := by simpa using hmn
        have HR : Hid (dropZ xs n = (ys ++ [(m, s)]) ++ dropZ (xs.drop (i + 1)) n) := by
          show _ = _
          rw [HE.out, HD.out, if_pos hne, List.append_assoc]
        have hbs := HB.out.size
        obtain ⟨WA, hWA⟩ : ∃ WA, WA = wr.alloc (.cells #[.int .i64 m, .string s] 71) := ⟨_, rfl⟩
        have hownA : Own2 W.heap.size WA u5 ys := by rw [hWA]; exact ownsRow_below HO.out (hal _)
        have hBA : Below W.heap.size W WA := by rw [hWA]; exact HB.out.trans ((hal _).mono HB.out.size)
        have hbsA := hBA.size
        have hown : WA.ownsRow W.heap.size 71 2 u5 ys.length (ys.flatMap prCells) := hownA
        have hsA : WA.heap.size = wr.heap.size + 1 := by rw [hWA]; simp
        have HSA := hid_mk hsA
        clear hsA
        have HWA := hid_mk hWA.symm
        have HBA := hid_mk hBA
        clear hWA hBA hownA
        go_wp2_with (at_builtin; rw [HWA.out]; go_must (refine wpList_append_own _ rfl _ _ 27 rfl W.heap.size 71 i0 _ 2 24 Try.underlying27 hi0 hz0 hz1 hz2 rfl (by decide) _ _ _ rfl (hown.alloc _) ⟨wr.heap.size + 1, 0, none⟩ 1 1 [.int .i64 m, .string s] rfl rfl (fun j u h => by have := news2 WA _ _ 71 j u h; rwa [HSA.out] at this) (by intro u hu; simp at hu; rcases hu with rfl | rfl <;> rfl) (by unfold maxLen; omega) (by omega) (by simp; omega) ?_); intro v' w7 hown7 hgrow7 _)
        exact ⟨⟨i + 1, ys ++ [(m, s)], by omega, rfl, by simp; omega, Own2.snoc hown7, HR.out, (HBA.out.alloc hbsA _).grown hgrow7 (by simp; omega) (fun k hk => (hown.lt k hk).1)⟩, by simp only [intOf]; omega⟩
    · have HR : Hid (dropZ xs n = ys) := by show _ = _; rw [HE.out, List.drop_of_length_le (by omega)]; exact List.append_nil _
      obtain rfl : i = xs.length := by omega
      go_wp2
      go_ret
      exact ⟨_, rfl, by rw [HR.out]; exact PsAt.own HO.out, PsTy.own HO.out, HB.out⟩

set_option maxHeartbeats 2000000 in
theorem rput_ty {W : World} {v : Value} {xs : List Pr} (hp : PsAt W v xs) (hlen : xs.length ≤ 1048576) (n : Int) (s : ByteArray) (hn : inR n) : Calls Try.prog 14 #[v, .int .i64 n, .string s] W fun e w' => ∃ v', e = .returned v' ∧ PsAt w' v' (putGo n s xs false) ∧ PsTy w' v' ∧ Below W.heap.size W w' := by
  obtain ⟨a, cap, rfl, hcap, hmax, hx⟩ := hp
  obtain ⟨i0, hi0, hz0, hz1, hz2⟩ := info_parts info71
  have HX := hid_mk hx
  have hn1 : 0 ≤ n := hn.1
  have hn2 : n < 1048576 := hn.2
  clear hx hn
  go_enter Try.func14, Try.ntmps14
  go_wp2
  go_loopw [7, 8, 20] (fun a7 a8 a20 wr => ∃ (i : Nat) (ys : List Pr) (done : Bool), i ≤ xs.length ∧ a20 = .int .i64 (i : Int) ∧ a8 = .bool done ∧ ys.length ≤ i + 1 ∧ (done = false → ys.length ≤ i) ∧ Own2 W.heap.size wr a7 ys ∧ putGo n s xs false = ys ++ putGo n s (xs.drop i) done ∧ Below W.heap.size W wr) (fun _ _ a20 _ => xs.length + 1 - (intOf a20).toNat)
  case atStart => exact ⟨0, [], false, Nat.zero_le _, rfl, rfl, Nat.zero_le _, fun _ => Nat.le_refl _, World.ownsRow_nil _ _ _ _, rfl, Below.refl _ _⟩
  case round =>
    obtain ⟨i, ys, done, hi, rfl, rfl, hyl, hyl2, hO, he, hB⟩ := hrel
    have HO := hid_mk hO
    have HE := hid_mk he
    have HB := hid_mk hB
    clear he hB hO
    by_cases hlt : i < xs.length
    · obtain ⟨b, off, rfl, hblt, hc⟩ := HX.out (by omega)
      have c0 := (HB.out.cell (p := ⟨b, off + i * 2, none⟩) hblt).trans (hc i hlt).1
      have c1 := (HB.out.cell (p := ⟨b, off + i * 2 + 1, none⟩) hblt).trans (hc i hlt).2
      have HD : Hid (putGo n s (xs.drop i) done = (if n ≤ xs[i].1 ∧ done = false then [(n, s)] else []) ++ ((if xs[i].1 ≠ n then [(xs[i].1, xs[i].2)] else []) ++ putGo n s (xs.drop (i + 1)) (done || decide (n ≤ xs[i].1)))) := by
        show _ = _
        rw [drop_getE hlt, putGo]
      have hal : ∀ o, Below wr.heap.size wr (wr.alloc o) := fun o => (Below.refl _ wr).alloc (Nat.le_refl _) o
      clear hc HX
      generalize xs[i].1 = m at *
      generalize xs[i].2 = x at *
      have hbs := HB.out.size
      obtain ⟨WA, hWA⟩ : ∃ WA, WA = wr.alloc (.cells #[.int .i64 m, .string x] 71) := ⟨_, rfl⟩
      have hownA : Own2 W.heap.size WA u7 ys := by rw [hWA]; exact ownsRow_below HO.out (hal _)
      have hBA : Below W.heap.size W WA := by rw [hWA]; exact HB.out.trans ((hal _).mono HB.out.size)
      have hbsA := hBA.size
      have hown : WA.ownsRow W.heap.size 71 2 u7 ys.length (ys.flatMap prCells) := hownA
      have hsA : WA.heap.size = wr.heap.size + 1 := by rw [hWA]; simp
      have hnewA : WA.heap[wr.heap.size]? = some (.cells #[.int .i64 m, .string x] 71) := by rw [hWA]; exact heap_alloc_last _ _
      have HNA := hid_mk hnewA
      have HSA := hid_mk hsA
      have HWA := hid_mk hWA.symm
      have HBA := hid_mk hBA
      have HOWN := hid_mk hown
      clear hsA hWA hBA hownA hnewA
      have HNE : Hid (u7.ownBlock ≠ some wr.heap.size) := fun e => absurd (HO.out.lt _ e).2 (by omega)
      by_cases hmn : m = n
      · subst hmn
        cases done with
        | true =>
          have HR : Hid (putGo m s xs false = ys ++ putGo m s (xs.drop (i + 1)) true) := by
            show _ = _
            rw [HE.out, HD.out, if_neg (by simp), if_neg (by simp)]
            rfl
          go_wp2
          rw [HWA.out]
          exact ⟨⟨i + 1, ys, true, by omega, rfl, rfl, by omega, (fun h => by cases h), HOWN.out, HR.out, HBA.out⟩, by simp only [intOf]; omega⟩
        | false =>
          have HR : Hid (putGo m s xs false = (ys ++ [(m, s)]) ++ putGo m s (xs.drop (i + 1)) true) := by
            show _ = _
            rw [HE.out, HD.out, if_pos ⟨Int.le_refl _, rfl⟩, if_neg (by simp), List.nil_append, List.append_assoc, decide_eq_true (Int.le_refl _)]
            rfl
          have hy1 := hyl2 rfl
          go_wp2_with (at_builtin; rw [HWA.out]; go_must (refine wpList_append_own _ rfl _ _ 27 rfl W.heap.size 71 i0 _ 2 24 Try.underlying27 hi0 hz0 hz1 hz2 rfl (by decide) _ _ _ rfl (HOWN.out.alloc _) ⟨wr.heap.size + 1, 0, none⟩ 1 1 [.int .i64 m, .string s] rfl rfl (fun j u h => by have := news2 WA _ _ 71 j u h; rwa [HSA.out] at this) (by intro u hu; simp at hu; rcases hu with rfl | rfl <;> rfl) (by unfold maxLen; omega) (by omega) (by simp; omega) ?_); intro v' w7 hown7 hgrow7 _; obtain ⟨hh7, hd0, hd1⟩ := append_leaves HNA.out HNE.out hgrow7)
          exact ⟨⟨i + 1, ys ++ [(m, s)], true, by omega, rfl, rfl, by simp; omega, (fun h => by cases h), Own2.snoc hown7, HR.out, (HBA.out.alloc hbsA _).grown hgrow7 (by simp; omega) (fun k hk => (HOWN.out.lt k hk).1)⟩, by simp only [intOf]; omega⟩
      · have hne : (m != n) = true := by simpa using hmn
        by_cases hcase : n ≤ m ∧ done = false
        · obtain ⟨hle, rfl⟩ := hcase
          have HR : Hid (putGo n s xs false = ((ys ++ [(n, s)]) ++ [(m, x)]) ++ putGo n s (xs.drop (i + 1)) true) := by
            show _ = _
            rw [HE.out, HD.out, if_pos ⟨hle, rfl⟩, if_pos hmn, List.append_assoc, List.append_assoc, decide_eq_true hle]
            rfl
          have hy1 := hyl2 rfl
          have hlt7 : n < m ∨ n = m := by omega
          go_wp2_with (first | (at_builtin; rw [HWA.out]; go_must (refine wpList_append_own _ rfl _ _ 27 rfl W.heap.size 71 i0 _ 2 24 Try.underlying27 hi0 hz0 hz1 hz2 rfl (by decide) _ _ _ rfl (HOWN.out.alloc _) ⟨wr.heap.size + 1, 0, none⟩ 1 1 [.int .i64 n, .string s] rfl rfl (fun j u h => by have := news2 WA _ _ 71 j u h; rwa [HSA.out] at this) (by intro u hu; simp at hu; rcases hu with rfl | rfl <;> rfl) (by unfold maxLen; omega) (by omega) (by simp; omega) ?_); intro v' w7 hown7 hgrow7 _; obtain ⟨hh7, hd0, hd1⟩ := append_leaves HNA.out HNE.out hgrow7; have hb7 : Below W.heap.size W w7 := (HBA.out.alloc hbsA _).grown hgrow7 (by simp; omega) (fun k hk => (HOWN.out.lt k hk).1); have hbs7 := hb7.size) | (at_builtin; go_must (refine wpList_append_own _ rfl _ _ 27 rfl W.heap.size 71 i0 _ 2 24 Try.underlying27 hi0 hz0 hz1 hz2 rfl (by decide) _ _ _ rfl (hown7.alloc _) ⟨w7.heap.size, 0, none⟩ 1 1 [.int .i64 m, .string x] rfl rfl (news2 w7 _ _ 71) (by intro u hu; simp at hu; rcases hu with rfl | rfl <;> rfl) (by unfold maxLen; omega) (by omega) (by simp; omega) ?_); intro v8 w8 hown8 hgrow8 _))
          have hown8' : w8.ownsRow W.heap.size 71 2 v8 ((ys ++ [(n, s)]).length + 1) (((ys ++ [(n, s)]).flatMap prCells) ++ prCells (m, x)) := by
            rw [List.length_append, List.flatMap_append, List.flatMap_singleton]
            exact hown8
          exact ⟨⟨i + 1, (ys ++ [(n, s)]) ++ [(m, x)], true, by omega, rfl, rfl, by simp; omega, (fun h => by cases h), Own2.snoc hown8', HR.out, (hb7.alloc hbs7 _).grown hgrow8 (by simp; omega) (fun k hk => (hown7.lt k hk).1)⟩, by simp only [intOf]; omega⟩
        · have hfin : (done || decide (n ≤ m)) = done := by
            cases done with
            | true => rfl
            | false =>
              have : ¬ n ≤ m := fun h => hcase ⟨h, rfl⟩
              simp [this]
          have HR : Hid (putGo n s xs false = (ys ++ [(m, x)]) ++ putGo n s (xs.drop (i + 1)) done) := by
            show _ = _
            rw [HE.out, HD.out, if_neg hcase, if_pos hmn, List.nil_append, List.append_assoc, hfin]
          have hy1 : ys.length ≤ 1048577 := by omega
          have hc2 : (decide (n ≤ m) = false) ∨ (done = true) := by
            cases done with
            | true => exact .inr rfl
            | false => exact .inl (by simpa using fun h => hcase ⟨h, rfl⟩)
          clear hcase hfin
          rcases hc2 with hc2 | rfl
          · have hc3 : m < n := by have := of_decide_eq_false hc2; omega
            go_wp2_with (at_builtin; rw [HWA.out]; go_must (refine wpList_append_own _ rfl _ _ 27 rfl W.heap.size 71 i0 _ 2 24 Try.underlying27 hi0 hz0 hz1 hz2 rfl (by decide) _ _ _ rfl (HOWN.out.alloc _) ⟨wr.heap.size + 1, 0, none⟩ 1 1 [.int .i64 m, .string x] rfl rfl (fun j u h => by have := news2 WA _ _ 71 j u h; rwa [HSA.out] at this) (by intro u hu; simp at hu; rcases hu with rfl | rfl <;> rfl) (by unfold maxLen; omega) (by omega) (by simp; omega) ?_); intro v' w7 hown7 hgrow7 _)
            all_goals
              exact ⟨⟨i + 1, ys ++ [(m, x)], done, by omega, rfl, rfl, by simp; omega, (fun h => by have := hyl2 h; simp; omega), Own2.snoc hown7, HR.out, (HBA.out.alloc hbsA _).grown hgrow7 (by simp; omega) (fun k hk => (HOWN.out.lt k hk).1)⟩, by simp only [intOf]; omega⟩
          · go_wp2_with (at_builtin; rw [HWA.out]; go_must (refine wpList_append_own _ rfl _ _ 27 rfl W.heap.size 71 i0 _ 2 24 Try.underlying27 hi0 hz0 hz1 hz2 rfl (by decide) _ _ _ rfl (HOWN.out.alloc _) ⟨wr.heap.size + 1, 0, none⟩ 1 1 [.int .i64 m, .string x] rfl rfl (fun j u h => by have := news2 WA _ _ 71 j u h; rwa [HSA.out] at this) (by intro u hu; simp at hu; rcases hu with rfl | rfl <;> rfl) (by unfold maxLen; omega) (by omega) (by simp; omega) ?_); intro v' w7 hown7 hgrow7 _)
            all_goals
              exact ⟨⟨i + 1, ys ++ [(m, x)], true, by omega, rfl, rfl, by simp; omega, (fun h => by cases h), Own2.snoc hown7, HR.out, (HBA.out.alloc hbsA _).grown hgrow7 (by simp; omega) (fun k hk => (HOWN.out.lt k hk).1)⟩, by simp only [intOf]; omega⟩
    · obtain rfl : i = xs.length := by omega
      cases done with
      | true =>
        have HR : Hid (putGo n s xs false = ys) := by
          show _ = _
          rw [HE.out, List.drop_of_length_le (by omega)]
          exact List.append_nil _
        go_wp2
        go_ret
        exact ⟨_, rfl, by rw [HR.out]; exact PsAt.own HO.out, PsTy.own HO.out, HB.out⟩
      | false =>
        have HR : Hid (putGo n s xs false = ys ++ [(n, s)]) := by
          show _ = _
          rw [HE.out, List.drop_of_length_le (by omega)]
          rfl
        have hy1 := hyl2 rfl
        have hbs := HB.out.size
        have hown : wr.ownsRow W.heap.size 71 2 u7 ys.length (ys.flatMap prCells) := HO.out
        go_wp2_with (at_builtin; go_must (refine wpList_append_own _ rfl _ _ 27 rfl W.heap.size 71 i0 _ 2 24 Try.underlying27 hi0 hz0 hz1 hz2 rfl (by decide) _ _ _ rfl (hown.alloc _) ⟨wr.heap.size, 0, none⟩ 1 1 [.int .i64 n, .string s] rfl rfl (news2 wr _ _ 71) (by intro u hu; simp at hu; rcases hu with rfl | rfl <;> rfl) (by unfold maxLen; omega) (by omega) (by simp; omega) ?_); intro v' w7 hown7 hgrow7 _)
        go_ret
        exact ⟨_, rfl, by rw [HR.out]; exact PsAt.own (Own2.snoc hown7), PsTy.own hown7, (HB.out.alloc hbs _).grown hgrow7 (by simp; omega) (fun k hk => (hown.lt k hk).1)⟩

end Go.Proofs.Ytnmpakjklbamiaa
