/- What a writer's builder holds behind each of its calls; all else stands as it stood. -/
import Derived.Test.YtdibldcnklgcjaaGreatDoorMoves
import Derived.Lib.Builder
import Derived.Lib.AppendStr
import Derived.Shelf.RegionOpenPlain
import Derived.Lib.UnsafeStr
namespace Go.Proofs.YtdibldcnklgcjaaGreatDoor
open Go.RowKit
set_option maxRecDepth 100000

/-- utf8.AppendRune, onto a row that the call owns. -/
theorem append_own (B : Nat) (v : Value) (n : Nat) (xs : List Value) (r : Int) (h0 : -2147483648 ≤ r) (h1 : r ≤ 2147483647) (w : World) (hown : w.ownsRow B 5 1 v n xs) (hlen : n + 4 ≤ 140737488355328) (hBw : B ≤ w.heap.size) :
    Calls Tryz.prog 75 #[v, .int .i32 r] w fun e w' => ∃ v', e = .returned v' ∧ w'.ownsRow B 5 1 v' (n + (Lib.encodeRuneZ r).length) (xs ++ (Lib.encodeRuneZ r).map (Value.int .u8)) ∧ ∃ o, (w.alloc o).grownBy w' v.ownBlock := by
  obtain ⟨i0, hi, hz0, hz1, hz2⟩ := info_parts Tryz.info5
  have fin : ∀ (w' : World), (∃ o, (w.alloc o).grownBy w' v.ownBlock) → ∃ o, (w.alloc o).grownBy w' v.ownBlock := by
    intro w' h
    exact h
  by_cases hs : 0 ≤ r ∧ r ≤ 127
  · have e : Lib.encodeRuneZ r = [r] := Lib.encodeRuneZ_one hs.1 hs.2
    rw [e]
    obtain ⟨g1, g2⟩ := hs
    clear e
    go_enter Tryz.func75, Tryz.ntmps75
    go_wp2_with (at_builtin; refine wpList_append_own _ rfl _ _ 50 rfl B 5 i0 (.int .u8 0) 1 1 Tryz.underlying50 hi hz0 hz1 hz2 rfl (by decide) _ _ _ rfl (hown.alloc _) ⟨w.heap.size, 0, none⟩ 1 1 ([r].map (Value.int .u8)) rfl rfl (news_lit w _) (ints_oneCell .u8 _) (by unfold maxLen; omega) (by omega) (by simp; omega) ?_; intro v' w2 hown' hgrow _)
    go_ret
    exact ⟨_, rfl, hown', fin _ ⟨_, hgrow⟩⟩
  · have HN : Calls Tryz.prog 97 #[v, .int .i32 r] w fun e w' => ∃ v', e = .returned v' ∧ w'.ownsRow B 5 1 v' (n + (Lib.encodeRuneZ r).length) (xs ++ (Lib.encodeRuneZ r).map (Value.int .u8)) ∧ ∃ o, (w.alloc o).grownBy w' v.ownBlock := by
      have use : ∀ (l : List Int), Lib.encodeRuneZ r = l → (Calls Tryz.prog 97 #[v, .int .i32 r] w fun e w' => ∃ v', e = .returned v' ∧ w'.ownsRow B 5 1 v' (n + l.length) (xs ++ l.map (Value.int .u8)) ∧ ∃ o, (w.alloc o).grownBy w' v.ownBlock) → Calls Tryz.prog 97 #[v, .int .i32 r] w fun e w' => ∃ v', e = .returned v' ∧ w'.ownsRow B 5 1 v' (n + (Lib.encodeRuneZ r).length) (xs ++ (Lib.encodeRuneZ r).map (Value.int .u8)) ∧ ∃ o, (w.alloc o).grownBy w' v.ownBlock := by
        intro l hl hc
        rw [hl]
        refine hc.mono ?_
        rintro e w' ⟨v', he, ho, hg⟩
        exact ⟨v', he, ho, fin _ hg⟩
      rcases (show (128 ≤ r ∧ r ≤ 2047) ∨ (2048 ≤ r ∧ r < 55296) ∨ (57343 < r ∧ r ≤ 65535) ∨ (65536 ≤ r ∧ r ≤ 1114111) ∨ r < 0 ∨ (55296 ≤ r ∧ r ≤ 57343) ∨ 1114111 < r by omega) with ⟨g1, g2⟩ | ⟨g1, g2⟩ | ⟨g1, g2⟩ | ⟨g1, g2⟩ | g1 | ⟨g1, g2⟩ | g1
      · exact use _ (Lib.encodeRuneZ_two g1 g2) (app_two B v n xs r g1 g2 w hown hlen hBw)
      · exact use _ (Lib.encodeRuneZ_three (.inl ⟨g1, g2⟩)) (app_threelo B v n xs r g1 g2 w hown hlen hBw)
      · exact use _ (Lib.encodeRuneZ_three (.inr ⟨g1, g2⟩)) (app_threehi B v n xs r g1 g2 w hown hlen hBw)
      · exact use _ (Lib.encodeRuneZ_four g1 g2) (app_four B v n xs r g1 g2 w hown hlen hBw)
      · exact use _ (Lib.encodeRuneZ_bad (.inl g1)) (app_neg B v n xs r h0 g1 w hown hlen hBw)
      · exact use _ (Lib.encodeRuneZ_bad (.inr (.inl ⟨g1, g2⟩))) (app_sur B v n xs r g1 g2 w hown hlen hBw)
      · exact use _ (Lib.encodeRuneZ_bad (.inr (.inr g1))) (app_big B v n xs r g1 h1 w hown hlen hBw)
    clear fin
    rcases (show r < 0 ∨ 127 < r by omega) with g1 | g1
    all_goals
      clear hs
      go_enter Tryz.func75, Tryz.ntmps75
      go_wp2_with (go_at_call 97; refine HN.mono ?_; rintro e w1 ⟨v', rfl, ho, hb⟩)
      go_ret
      exact ⟨_, rfl, ho, hb⟩


theorem Tryz.size106 : (Tryz.prog.info? 106).map (·.size) = some 2 := by kernel_rfl
theorem Tryz.lies106 : liesAt Tryz.prog Tryz.prog.depth 108 (2 / Tryz.prog.cellsOf 108) 0 106 1 = true := by kernel_rfl

abbrev Bld (b : Nat) (bs : List Value) (w : World) : Prop := Lib.IsBuilder 108 5 b b bs w
abbrev BldU (b : Nat) (bs : List Value) (w : World) : Prop := Lib.BuilderAt 108 5 b b (.pointer (some ⟨b, 0, none⟩)) bs w

set_option maxHeartbeats 1000000 in
set_option maxRecDepth 100000 in
theorem check_used (b : Nat) (w : World) (h0 : w.cell? ⟨b, 0, none⟩ = some (.pointer (some ⟨b, 0, none⟩))) :
    Calls Tryz.prog 74 #[.pointer (some ⟨b, 0, none⟩)] w fun e w' => e = .returned (.tuple #[]) ∧ w = w' := by
  obtain ⟨j, hj, _⟩ := Option.map_eq_some_iff.1 Tryz.size106
  go_enter Tryz.func74, Tryz.ntmps74
  go_wp2
  rw [Lib.run_neq_ptr_same w _ Tryz.underlying104 hj]
  go_wp2
  go_end0
  exact ⟨rfl, rfl⟩

set_option maxHeartbeats 1000000 in
set_option maxRecDepth 100000 in
theorem check_fresh (b : Nat) (w : World) (h0 : w.cell? ⟨b, 0, none⟩ = some (.pointer none)) (hsh : w.shape? b = some (108, 2)) (hfz : w.frozen? ⟨b, 0, none⟩ = false) :
    Calls Tryz.prog 74 #[.pointer (some ⟨b, 0, none⟩)] w fun e w' => e = .returned (.tuple #[]) ∧ w.setCell ⟨b, 0, none⟩ (.pointer (some ⟨b, 0, none⟩)) = w' := by
  obtain ⟨j, hj, hjs⟩ := Option.map_eq_some_iff.1 Tryz.size106
  have h1 := Lib.run_to_unsafe w ⟨b, 0, none⟩ Tryz.underlying104 Tryz.underlying135 hj (by rw [hjs]; decide) hsh (Nat.zero_lt_succ 1)
  have h2 := Lib.run_from_unsafe w ⟨b, 0, none⟩ Tryz.underlying135 Tryz.underlying104 hj hsh Tryz.lies106
  go_enter Tryz.func74, Tryz.ntmps74
  go_wp2
  rw [run_callFunc_extern Tryz.func96 (by kernel_rfl) (by kernel_rfl) (by kernel_rfl) (e := Extern.AbiNoEscape.same) (by kernel_rfl), Lib.run_noEscape]
  simp only [Result.andThen]
  rw [Oper.upon_value]
  go_wp2
  go_end0
  exact ⟨rfl, rfl⟩

/-- All blocks but one, and but a row of bytes, stand as they stood. -/
theorem check_any (b : Nat) (bs : List Value) (w : World) (h : Bld b bs w) :
    Calls Tryz.prog 74 #[.pointer (some ⟨b, 0, none⟩)] w fun e w' => e = .returned (.tuple #[]) ∧ BldU b bs w' ∧ Below b w w' := by
  rcases h with h | h
  · refine (check_fresh b w h.cell0 h.shape h.frozen0).mono ?_
    rintro e w' ⟨rfl, rfl⟩
    exact ⟨rfl, h.used _, (Below.refl b w).setCell (p := ⟨b, 0, none⟩) (Nat.le_refl _) _⟩
  · refine (check_used b w h.cell0).mono ?_
    rintro e w' ⟨rfl, rfl⟩
    exact ⟨rfl, h, Below.refl b w⟩

theorem nums_cells (l : List Int) : l.map (Value.int .u8) = l.map fun x => Value.int .u8 x := rfl

set_option maxHeartbeats 2000000 in
set_option maxRecDepth 100000 in
theorem writeRune_any (b : Nat) (bs : List Value) (r : Int) (h0 : -2147483648 ≤ r) (h1 : r ≤ 2147483647) (w : World) (h : Bld b bs w) (hlen : bs.length + 4 ≤ 140737488355328) :
    Calls Tryz.prog 51 #[.pointer (some ⟨b, 0, none⟩), .int .i32 r] w fun e w' => (∃ n : Int, e = .returned (.tuple #[.int .i64 n, .nilIface])) ∧ BldU b (bs ++ (Lib.encodeRuneZ r).map (Value.int .u8)) w' ∧ Below b w w' := by
  go_enter Tryz.func51, Tryz.ntmps51
  go_wp2_with (go_at_call 74; fail)
  refine (check_any b bs w h).mono ?_
  rintro e w1 ⟨rfl, hU, hb1⟩
  obtain ⟨hBb, v, hbk, hown, hne⟩ := hU
  have hlt : b < w1.heap.size := (Array.getElem?_eq_some_iff.1 hbk).1
  have c0 : w1.cell? ⟨b, 0, none⟩ = some (.pointer (some ⟨b, 0, none⟩)) := by rw [Lib.cell_of_heap hbk]; rfl
  have c1 : w1.cell? ⟨b, 1, none⟩ = some v := by rw [Lib.cell_of_heap hbk]; rfl
  have hap := append_own b v bs.length bs r h0 h1 w1 hown hlen (by omega)
  have hvs : ∃ a cap, v = .slice a bs.length cap := by
    rcases hown.2 with ⟨hv, hz⟩ | ⟨g, cap, cur, hv, _⟩
    · exact ⟨none, 0, by rw [hv, hz]⟩
    · exact ⟨_, cap, hv⟩
  obtain ⟨av, cv, hv⟩ := hvs
  subst hv
  have hbl : bs.length ≤ 140737488355328 := by omega
  go_wp2_with (go_at_call 75; fail)
  refine hap.mono ?_
  rintro e w2 ⟨v', rfl, ho2, o, hg⟩
  have hb2 : w2.heap[b]? = some (.cells #[.pointer (some ⟨b, 0, none⟩), .slice av bs.length cv] 108 (0, 0)) := by
    rw [hg.block b (by simp; omega) (fun e => hne e.symm), Lib.alloc_old w1 _ b hlt]
    exact hbk
  have d0 : w2.cell? ⟨b, 0, none⟩ = some (.pointer (some ⟨b, 0, none⟩)) := by rw [Lib.cell_of_heap hb2]; rfl
  have d1 : w2.cell? ⟨b, 1, none⟩ = some (.slice av bs.length cv) := by rw [Lib.cell_of_heap hb2]; rfl
  have f1 : w2.frozen? ⟨b, 1, none⟩ = false := Lib.frozen_of_heap hb2 1
  have hel := Lib.encodeRuneZ_length r
  have hvs : ∃ a cap, v' = .slice a (bs.length + (Lib.encodeRuneZ r).length) cap := by
    rcases ho2.2 with ⟨hv, hz⟩ | ⟨g, cap, cur, hv, _⟩
    · omega
    · exact ⟨_, cap, hv⟩
  obtain ⟨av', cv', hv'⟩ := hvs
  subst hv'
  have HO : BldU b (bs ++ (Lib.encodeRuneZ r).map (Value.int .u8)) (w2.setCell ⟨b, 1, none⟩ (.slice av' (bs.length + (Lib.encodeRuneZ r).length) cv')) :=
    Lib.BuilderAt.put (T := 108) (e := 5) (Nat.le_refl _) hb2 (by simpa using ho2) (by decide)
  have HB : Below b w (w2.setCell ⟨b, 1, none⟩ (.slice av' (bs.length + (Lib.encodeRuneZ r).length) cv')) :=
    (((hb1.alloc (by omega) o).grown hg (by simp; omega) (fun k hk => (hown.lt k hk).1))).setCell (p := ⟨b, 1, none⟩) (Nat.le_refl _) _
  generalize (Lib.encodeRuneZ r).length = q at *
  clear hap ho2 hg hown hne
  go_wp2
  go_ret2
  exact ⟨⟨_, rfl⟩, HO, HB⟩

/-- A writer that holds these bytes. -/
def Wr (b : Nat) (ns : List Int) (w : World) : Prop := Bld b (ns.map (Value.int .u8)) w ∧ (∀ n ∈ ns, 0 ≤ n ∧ n < 256) ∧ (ns = [] → ∃ p, w.heap[b]? = some (.cells #[p, .slice none 0 0] 108 (0, 0)))

theorem wr_new (w : World) : Wr w.heap.size [] (w.alloc (.cells #[.pointer none, .slice none 0 0] 108)) :=
  ⟨Lib.fresh_isBuilder 108 5 w, by simp, fun _ => ⟨_, heap_alloc_new w _⟩⟩

theorem wr_rune (b : Nat) (ns : List Int) (r : Int) (h0 : -2147483648 ≤ r) (h1 : r ≤ 2147483647) (w : World) (h : Wr b ns w) (hlen : ns.length + 4 ≤ 140737488355328) :
    Calls Tryz.prog 51 #[.pointer (some ⟨b, 0, none⟩), .int .i32 r] w fun e w' => (∃ n : Int, e = .returned (.tuple #[.int .i64 n, .nilIface])) ∧ Wr b (ns ++ Lib.encodeRuneZ r) w' ∧ Below b w w' := by
  refine (writeRune_any b _ r h0 h1 w h.1 (by simpa using hlen)).mono ?_
  rintro e w' ⟨he, hU, hb⟩
  have hl := Lib.encodeRuneZ_length r
  refine ⟨he, ⟨.inr (by simpa using hU), ?_, fun h2 => ?_⟩, hb⟩
  · intro n hn
    rcases List.mem_append.1 hn with hn | hn
    · exact h.2.1 n hn
    · exact Lib.encodeRuneZ_byte r n hn
  · obtain ⟨_, h3⟩ := List.append_eq_nil_iff.1 h2
    rw [h3] at hl
    simp at hl

theorem Tryz.cells5 : Tryz.prog.cellsOf 5 = 1 := by kernel_rfl
theorem byte_back {n : Int} (h : 0 ≤ n ∧ n < 256) : ((UInt8.ofNat n.toNat).toNat : Int) = n := by
  simp only [UInt8.toNat_ofNat']
  omega

set_option maxHeartbeats 2000000 in
set_option maxRecDepth 100000 in
theorem wr_string (b : Nat) (ns : List Int) (w : World) (h : Wr b ns w) :
    Calls Tryz.prog 52 #[.pointer (some ⟨b, 0, none⟩)] w fun e w' => e = .returned (.string (strOfNums ns)) ∧ Below b w w' := by
  obtain ⟨hB, hby, hem⟩ := h
  have mixed : Tryz.prog.follows Departure.mixedOrders = true := by kernel_rfl
  by_cases h0 : ns = []
  · subst h0
    obtain ⟨p, hbk⟩ := hem rfl
    have c1 : w.drew.cell? ⟨b, 1, none⟩ = some (.slice none 0 0) := by
      have : w.drew.heap[b]? = some (.cells #[p, .slice none 0 0] 108 (0, 0)) := hbk
      rw [Lib.cell_of_heap this]; rfl
    have hSD : (Builtin.unsafeSliceData_ #[50] 127 #[.slice none 0 0]).run Tryz.prog w.drew = .ok (.pointer none) w.drew := rfl
    have hUS : ∀ p, (Builtin.unsafeString_ #[127, 3] 9 #[.pointer p, .int .i64 0]).run Tryz.prog w.drew = .ok (.string .empty) w.drew := fun p => Lib.run_unsafeString_none _ _ _ _ p
    go_enter Tryz.func52, Tryz.ntmps52
    go_wp2
    go_region_o
    all_goals (go_wp2; go_ret; exact ⟨rfl, Below.drew (Below.refl b w)⟩)
  · have hat : ∃ p, Lib.BuilderAt 108 5 b b p (ns.map (Value.int .u8)) w := by
      rcases hB with h | h
      · exact ⟨_, h⟩
      · exact ⟨_, h⟩
    obtain ⟨p, hBb, v, hbk, hown, hne⟩ := hat
    have hl0 : ns.length ≠ 0 := by simpa using h0
    rw [List.length_map] at hown
    obtain ⟨g, cap, cur, rfl, hbg, hg, hnc, hcm, hcur, htake⟩ : ∃ g cap cur, v = .slice (some ⟨g, 0, none⟩) ns.length cap ∧ b ≤ g ∧ w.heap[g]? = some (.cells cur 5 (0, 0)) ∧ ns.length ≤ cap ∧ cap ≤ maxLen ∧ cur.size = cap * 1 ∧ cur.toList.take (ns.length * 1) = ns.map (Value.int .u8) := by
      rcases hown.2 with ⟨_, hz⟩ | ⟨g, cap, cur, hv, r⟩
      · exact absurd hz hl0
      · exact ⟨g, cap, cur, hv, r⟩
    have c1 : w.drew.cell? ⟨b, 1, none⟩ = some (.slice (some ⟨g, 0, none⟩) ns.length cap) := by
      have : w.drew.heap[b]? = some (.cells #[p, .slice (some ⟨g, 0, none⟩) ns.length cap] 108 (0, 0)) := hbk
      rw [Lib.cell_of_heap this]; rfl
    have hSD : (Builtin.unsafeSliceData_ #[50] 127 #[.slice (some ⟨g, 0, none⟩) ns.length cap]).run Tryz.prog w.drew = .ok (.pointer (some ⟨g, 0, none⟩)) w.drew :=
      Lib.run_unsafeSliceData_row _ _ _ _ _ _ (by omega)
    have hUS : (Builtin.unsafeString_ #[127, 3] 9 #[.pointer (some ⟨g, 0, none⟩), .int .i64 ns.length]).run Tryz.prog w.drew = .ok (.string (strOfNums ns)) (w.drew.freeze ⟨g, 0, none⟩ ns.length) := by
      have := Lib.run_unsafeString_row w.drew 127 3 9 5 Tryz.underlying127 Tryz.cells5 g cur.size (by have hg' : w.drew.heap[g]? = some (.cells cur 5 (0, 0)) := hg; simp [World.shape?, hg']) (ns.map fun n => UInt8.ofNat n.toNat) (by simpa using h0) (by simp; omega) (by simp; unfold maxLen at hcm; omega) ?_
      · rw [List.length_map] at this
        exact this
      · intro j x hx
        simp only [List.getElem?_map, Option.map_eq_some_iff] at hx
        obtain ⟨n, hn, rfl⟩ := hx
        have hm := hby n (List.mem_of_getElem? hn)
        rw [byte_back hm]
        exact hown.cells (g := g) rfl j (.int .u8 n) (by simp [hn])
    have HB : Below b w (w.drew.freeze ⟨g, 0, none⟩ ns.length) := Lib.below_freeze (Below.drew (Below.refl b w)) (p := ⟨g, 0, none⟩) hbg _
    clear hB
    generalize strOfNums ns = S at hUS ⊢
    go_enter Tryz.func52, Tryz.ntmps52
    go_wp2
    go_region_o
    all_goals (go_wp2; go_ret; exact ⟨rfl, HB⟩)
end Go.Proofs.YtdibldcnklgcjaaGreatDoor
