/- What a strings.Builder holds behind WriteString, and what String tells of it. -/
import Derived.Test.YtpflliophellgaaGreatDoorNAhead
import Derived.Lib.Builder
import Derived.Lib.AppendStr
import Derived.Shelf.RegionOpenPlain
import Derived.Lib.UnsafeStr
import Derived.Lib.OthersKept
namespace Go.Proofs.YtpflliophellgaaGreatDoor.N
open Go.RowKit

theorem Tryz.info5 : (Tryz.prog.info? 5).map (fun i => (i.zero, i.size, i.bytes)) = some (some (.int .u8 0), 1, 1) := by kernel_rfl

theorem Tryz.size59 : (Tryz.prog.info? 59).map (·.size) = some 2 := by kernel_rfl

theorem Tryz.lies59 : liesAt Tryz.prog Tryz.prog.depth 59 (2 / Tryz.prog.cellsOf 59) 0 59 1 = true := by kernel_rfl

abbrev Bld (b : Nat) (bs : List Value) (w : World) : Prop := Lib.IsBuilder 59 5 b b bs w

abbrev BldU (b : Nat) (bs : List Value) (w : World) : Prop := Lib.BuilderAt 59 5 b b (.pointer (some ⟨b, 0, none⟩)) bs w

set_option maxHeartbeats 1000000 in
set_option maxRecDepth 100000 in
theorem check_used (b : Nat) (w : World) (h0 : w.cell? ⟨b, 0, none⟩ = some (.pointer (some ⟨b, 0, none⟩))) :
    Calls Tryz.prog 74 #[.pointer (some ⟨b, 0, none⟩)] w fun e w' => e = .returned (.tuple #[]) ∧ w = w' := by
  obtain ⟨j, hj, _⟩ := Option.map_eq_some_iff.1 Tryz.size59
  go_enter Tryz.func74, Tryz.ntmps74
  go_wp2
  rw [Lib.run_neq_ptr_same w _ Tryz.underlying57 hj]
  go_wp2
  go_end0
  exact ⟨rfl, rfl⟩

set_option maxHeartbeats 1000000 in
set_option maxRecDepth 100000 in
theorem check_fresh (b : Nat) (w : World) (h0 : w.cell? ⟨b, 0, none⟩ = some (.pointer none)) (hsh : w.shape? b = some (59, 2)) (hfz : w.frozen? ⟨b, 0, none⟩ = false) :
    Calls Tryz.prog 74 #[.pointer (some ⟨b, 0, none⟩)] w fun e w' => e = .returned (.tuple #[]) ∧ w.setCell ⟨b, 0, none⟩ (.pointer (some ⟨b, 0, none⟩)) = w' := by
  obtain ⟨j, hj, hjs⟩ := Option.map_eq_some_iff.1 Tryz.size59
  have h1 := Lib.run_to_unsafe w ⟨b, 0, none⟩ Tryz.underlying57 Tryz.underlying110 hj (by rw [hjs]; decide) hsh (Nat.zero_lt_succ 1)
  have h2 := Lib.run_from_unsafe w ⟨b, 0, none⟩ Tryz.underlying110 Tryz.underlying57 hj hsh Tryz.lies59
  go_enter Tryz.func74, Tryz.ntmps74
  go_wp2
  rw [run_callFunc_extern Tryz.func99 (by kernel_rfl) (by kernel_rfl) (by kernel_rfl) (e := Extern.AbiNoEscape.same) (by kernel_rfl), Lib.run_noEscape]
  simp only [Result.andThen]
  rw [Oper.upon_value]
  go_wp2
  go_end0
  exact ⟨rfl, rfl⟩

/-- A writer that holds these bytes. -/
def Wr (b : Nat) (ns : List Int) (w : World) : Prop := Bld b (ns.map (Value.int .u8)) w ∧ (∀ n ∈ ns, 0 ≤ n ∧ n < 256) ∧ (ns = [] → ∃ p, w.heap[b]? = some (.cells #[p, .slice none 0 0] 59 (0, 0)))

theorem wr_new (w : World) : Wr w.heap.size [] (w.alloc (.cells #[.pointer none, .slice none 0 0] 59)) :=
  ⟨Lib.fresh_isBuilder 59 5 w, by simp, fun _ => ⟨_, heap_alloc_new w _⟩⟩

theorem Tryz.cells5 : Tryz.prog.cellsOf 5 = 1 := by kernel_rfl

theorem byte_back {n : Int} (h : 0 ≤ n ∧ n < 256) : ((UInt8.ofNat n.toNat).toNat : Int) = n := by
  simp only [UInt8.toNat_ofNat']
  omega

set_option maxHeartbeats 2000000 in
set_option maxRecDepth 100000 in
theorem wr_string (b : Nat) (ns : List Int) (w : World) (h : Wr b ns w) :
    Calls Tryz.prog 39 #[.pointer (some ⟨b, 0, none⟩)] w fun e w' => e = .returned (.string (strOfNums ns)) ∧ Below b w w' := by
  obtain ⟨hB, hby, hem⟩ := h
  have mixed : Tryz.prog.follows Departure.mixedOrders = true := by kernel_rfl
  by_cases h0 : ns = []
  · subst h0
    obtain ⟨p, hbk⟩ := hem rfl
    have c1 : w.drew.cell? ⟨b, 1, none⟩ = some (.slice none 0 0) := by
      have : w.drew.heap[b]? = some (.cells #[p, .slice none 0 0] 59 (0, 0)) := hbk
      rw [Lib.cell_of_heap this]; rfl
    have hSD : (Builtin.unsafeSliceData_ #[31] 98 #[.slice none 0 0]).run Tryz.prog w.drew = .ok (.pointer none) w.drew := rfl
    have hUS : ∀ p, (Builtin.unsafeString_ #[98, 3] 9 #[.pointer p, .int .i64 0]).run Tryz.prog w.drew = .ok (.string .empty) w.drew := fun p => Lib.run_unsafeString_none _ _ _ _ p
    go_enter Tryz.func39, Tryz.ntmps39
    go_wp2
    go_region_o
    all_goals (go_wp2; go_ret; exact ⟨rfl, Below.drew (Below.refl b w)⟩)
  · have hat : ∃ p, Lib.BuilderAt 59 5 b b p (ns.map (Value.int .u8)) w := by
      rcases hB with h | h
      · exact ⟨_, h⟩
      · exact ⟨_, h⟩
    obtain ⟨p, hBb, v, hbk, hown, hne⟩ := hat
    have hl0 : ns.length ≠ 0 := by simpa using h0
    rw [List.length_map] at hown
    obtain ⟨g, cap, cur, rfl, hbg, hg, hnc, hcm, hcur, htake⟩ : ∃ g cap cur, v = .slice (some ⟨g, 0, none⟩) ns.length cap ∧ b ≤ g ∧ w.heap[g]? = some (.cells cur 5 (0, 0)) ∧ ns.length ≤ cap ∧ cap ≤ maxLen ∧ cur.size = cap * 1 ∧ cur.toList.take (ns.length * 1) = ns.map (Value.int .u8) := by
      rcases hown.2 with ⟨_, hz⟩ | ⟨g, cap, cur, hv, r⟩
      · exact absurd hz hl0
      · exact ⟨g, cap, cur, hv, r⟩
    have c1 : w.drew.cell? ⟨b, 1, none⟩ = some (.slice (some ⟨g, 0, none⟩) ns.length cap) := by
      have : w.drew.heap[b]? = some (.cells #[p, .slice (some ⟨g, 0, none⟩) ns.length cap] 59 (0, 0)) := hbk
      rw [Lib.cell_of_heap this]; rfl
    have hSD : (Builtin.unsafeSliceData_ #[31] 98 #[.slice (some ⟨g, 0, none⟩) ns.length cap]).run Tryz.prog w.drew = .ok (.pointer (some ⟨g, 0, none⟩)) w.drew :=
      Lib.run_unsafeSliceData_row _ _ _ _ _ _ (by omega)
    have hUS : (Builtin.unsafeString_ #[98, 3] 9 #[.pointer (some ⟨g, 0, none⟩), .int .i64 ns.length]).run Tryz.prog w.drew = .ok (.string (strOfNums ns)) (w.drew.freeze ⟨g, 0, none⟩ ns.length) := by
      have := Lib.run_unsafeString_row w.drew 98 3 9 5 Tryz.underlying98 Tryz.cells5 g cur.size (by have hg' : w.drew.heap[g]? = some (.cells cur 5 (0, 0)) := hg; simp [World.shape?, hg']) (ns.map fun n => UInt8.ofNat n.toNat) (by simpa using h0) (by simp; omega) (by simp; unfold maxLen at hcm; omega) ?_
      · rw [List.length_map] at this
        exact this
      · intro j x hx
        simp only [List.getElem?_map, Option.map_eq_some_iff] at hx
        obtain ⟨n, hn, rfl⟩ := hx
        have hm := hby n (List.mem_of_getElem? hn)
        rw [byte_back hm]
        exact hown.cells (g := g) rfl j (.int .u8 n) (by simp [hn])
    have HB : Below b w (w.drew.freeze ⟨g, 0, none⟩ ns.length) := Lib.below_freeze (Below.drew (Below.refl b w)) (p := ⟨g, 0, none⟩) hbg _
    clear hB
    generalize strOfNums ns = S at hUS ⊢
    go_enter Tryz.func39, Tryz.ntmps39
    go_wp2
    go_region_o
    all_goals (go_wp2; go_ret; exact ⟨rfl, HB⟩)

/-- All blocks but one, and but a row of bytes, stand as they stood. -/
theorem check_k (b : Nat) (bs : List Value) (w : World) (h : Bld b bs w) :
    Calls Tryz.prog 74 #[.pointer (some ⟨b, 0, none⟩)] w fun e w' => e = .returned (.tuple #[]) ∧ BldU b bs w' ∧ Below b w w' ∧ Lib.OthersKept 5 (some b) w w' := by
  rcases h with h | h
  · refine (check_fresh b w h.cell0 h.shape h.frozen0).mono ?_
    rintro e w' ⟨rfl, rfl⟩
    exact ⟨rfl, h.used _, (Below.refl b w).setCell (p := ⟨b, 0, none⟩) (Nat.le_refl _) _, (Lib.OthersKept.refl _ _ w).setCell ⟨b, 0, none⟩ rfl _⟩
  · refine (check_used b w h.cell0).mono ?_
    rintro e w' ⟨rfl, rfl⟩
    exact ⟨rfl, h, Below.refl b w, Lib.OthersKept.refl _ _ w⟩

theorem str_cells (s : List Int) (hs : ∀ n ∈ s, 0 ≤ n ∧ n < 256) : Lib.strCells (strOfNums s) = s.map (Value.int .u8) := by
  rw [Lib.strCells_eq]
  show ((s.map fun n => UInt8.ofNat n.toNat).toArray.toList).map _ = _
  simp only [List.map_map]
  apply List.map_congr_left
  intro n hn
  show Value.int IntKind.u8 ((UInt8.ofNat n.toNat).toNat : Int) = _
  rw [byte_back (hs n hn)]

set_option maxHeartbeats 2000000 in
set_option maxRecDepth 100000 in
theorem wr_str_k (b : Nat) (ns s : List Int) (hs : ∀ n ∈ s, 0 ≤ n ∧ n < 256) (h0 : ns ++ s ≠ []) (w : World) (h : Wr b ns w) (hlen : ns.length + s.length ≤ 140737488355328) :
    Calls Tryz.prog 37 #[.pointer (some ⟨b, 0, none⟩), .string (strOfNums s)] w fun e w' => (∃ n : Int, e = .returned (.tuple #[.int .i64 n, .nilIface])) ∧ Wr b (ns ++ s) w' ∧ Below b w w' ∧ Lib.OthersKept 5 (some b) w w' := by
  obtain ⟨i0, hi, hz0, hz1, hz2⟩ := info_parts Tryz.info5
  obtain ⟨hB, hby, _⟩ := h
  have hss : (strOfNums s).size = s.length := strOf_size s
  have hs0 : 0 < ns.length + s.length := by have := List.length_pos_iff.2 h0; rwa [List.length_append] at this
  go_enter Tryz.func37, Tryz.ntmps37
  go_wp2_with (go_at_call 74; fail)
  refine (check_k b _ w hB).mono ?_
  rintro e w1 ⟨rfl, hU, hb1, hk1⟩
  obtain ⟨hBb, v, hbk, hown, hne⟩ := hU
  have hlt : b < w1.heap.size := (Array.getElem?_eq_some_iff.1 hbk).1
  have c0 : w1.cell? ⟨b, 0, none⟩ = some (.pointer (some ⟨b, 0, none⟩)) := by rw [Lib.cell_of_heap hbk]; rfl
  have c1 : w1.cell? ⟨b, 1, none⟩ = some v := by rw [Lib.cell_of_heap hbk]; rfl
  rw [List.length_map] at hown
  go_wp2_with (at_builtin; refine Lib.wpList_append_own_string _ rfl _ _ 31 9 rfl b 5 i0 Tryz.underlying31 Tryz.underlying9 hi hz0 hz1 hz2 _ _ _ rfl hown (strOfNums s) rfl ?c3 ?c4 ?c5 ?_)
  case c3 => unfold maxLen; omega
  case c4 => omega
  case c5 => omega
  intro v' w2 ho2 hg _
  have hb2 : w2.heap[b]? = some (.cells #[.pointer (some ⟨b, 0, none⟩), v] 59 (0, 0)) := by
    rw [hg.block b hlt (fun e => hne e.symm)]
    exact hbk
  have d0 : w2.cell? ⟨b, 0, none⟩ = some (.pointer (some ⟨b, 0, none⟩)) := by rw [Lib.cell_of_heap hb2]; rfl
  have d1 : w2.cell? ⟨b, 1, none⟩ = some v := by rw [Lib.cell_of_heap hb2]; rfl
  have f1 : w2.frozen? ⟨b, 1, none⟩ = false := Lib.frozen_of_heap hb2 1
  rw [str_cells s hs] at ho2
  obtain ⟨g, cap, rfl⟩ : ∃ g cap, v' = .slice (some ⟨g, 0, none⟩) (ns.length + s.length) cap := by
    rcases ho2.2 with ⟨_, h0⟩ | ⟨g, cap, cur, hv, _⟩
    · omega
    · exact ⟨g, cap, hv⟩
  have HP : BldU b ((ns ++ s).map (Value.int .u8)) (w2.setCell ⟨b, 1, none⟩ (.slice (some ⟨g, 0, none⟩) (ns.length + s.length) cap)) :=
    Lib.BuilderAt.put (T := 59) (e := 5) (bs' := (ns ++ s).map (Value.int .u8)) (Nat.le_refl _) hb2 (by simpa using ho2) (by decide)
  have HB : Below b w (w2.setCell ⟨b, 1, none⟩ (.slice (some ⟨g, 0, none⟩) (ns.length + s.length) cap)) := (hb1.grown hg (by omega) (fun k hk => (hown.lt k hk).1)).setCell (p := ⟨b, 1, none⟩) (Nat.le_refl _) _
  have HK : Lib.OthersKept 5 (some b) w (w2.setCell ⟨b, 1, none⟩ (.slice (some ⟨g, 0, none⟩) (ns.length + s.length) cap)) := (hk1.grown hg (Lib.ownsRowF_kind (World.ownsRowF_of hown))).setCell ⟨b, 1, none⟩ rfl _
  clear ho2 hg hown hne hss
  generalize strOfNums s = S at *
  go_wp2
  go_ret2
  refine ⟨⟨_, rfl⟩, ⟨.inr HP, ?_, fun h2 => ?_⟩, HB, HK⟩
  · intro n hn
    rcases List.mem_append.1 hn with hn | hn
    · exact hby n hn
    · exact hs n hn
  · exact absurd h2 h0


theorem append_nothing (w : World) (ty : TypeId) : (Builtin.append_ #[31, 9] ty #[.slice none 0 0, .string ⟨#[]⟩]).run Tryz.prog w = .ok (.slice none 0 0) w := by
  obtain ⟨i0, hi, hz0, hz1, hz2⟩ := info_parts Tryz.info5
  have h0 : (⟨#[]⟩ : ByteArray).size = 0 := rfl
  have hf := Lib.run_firstCells_string (P := Tryz.prog) w 1 ⟨#[]⟩
  rw [h0] at hf
  simp [hf, Builtin.append_, run_underlying Tryz.underlying31, run_underlying Tryz.underlying9, sizeOf, typeInfo, hi, hz1, Builtin.lenOf, h0]
theorem set2k {w : World} {b : Nat} {x0 x1 u : Value} {T : TypeId} (h : w.heap[b]? = some (.cells #[x0, x1] T (0, 0))) : (w.setCell ⟨b, 0, none⟩ u).heap[b]? = some (.cells #[u, x1] T (0, 0)) := by
  simp [World.setCell, Array.getElem?_modify, h]
theorem set2k1 {w : World} {b : Nat} {x0 x1 u : Value} {T : TypeId} (h : w.heap[b]? = some (.cells #[x0, x1] T (0, 0))) : (w.setCell ⟨b, 1, none⟩ u).heap[b]? = some (.cells #[x0, u] T (0, 0)) := by
  simp [World.setCell, Array.getElem?_modify, h]

set_option maxHeartbeats 2000000 in
set_option maxRecDepth 100000 in
/-- WriteString of an empty text to a builder that holds nothing. -/
theorem wr_nothing (b : Nat) (w : World) (h : Wr b [] w) :
    Calls Tryz.prog 37 #[.pointer (some ⟨b, 0, none⟩), .string ⟨#[]⟩] w fun e w' => (∃ n : Int, e = .returned (.tuple #[.int .i64 n, .nilIface])) ∧ Wr b [] w' ∧ Below b w w' ∧ Lib.OthersKept 5 (some b) w w' := by
  obtain ⟨hB, _, hnil⟩ := h
  obtain ⟨p, hp⟩ := hnil rfl
  have hap := fun w ty => append_nothing w ty
  have hck : Calls Tryz.prog 74 #[.pointer (some ⟨b, 0, none⟩)] w fun e w' => e = .returned (.tuple #[]) ∧ w'.heap[b]? = some (.cells #[.pointer (some ⟨b, 0, none⟩), .slice none 0 0] 59 (0, 0)) ∧ Below b w w' ∧ Lib.OthersKept 5 (some b) w w' := by
    rcases hB with h | h
    · have hpe : p = .pointer none := by
        obtain ⟨_, v, hb, _⟩ := h
        rw [hp] at hb
        simp at hb
        exact hb.1
      subst hpe
      refine (check_fresh b w h.cell0 h.shape h.frozen0).mono ?_
      rintro e w' ⟨rfl, rfl⟩
      exact ⟨rfl, set2k hp, (Below.refl b w).setCell (p := ⟨b, 0, none⟩) (Nat.le_refl _) _, (Lib.OthersKept.refl _ _ w).setCell ⟨b, 0, none⟩ rfl _⟩
    · have hpe : p = .pointer (some ⟨b, 0, none⟩) := by
        obtain ⟨_, v, hb, _⟩ := h
        rw [hp] at hb
        simp at hb
        exact hb.1
      subst hpe
      refine (check_used b w h.cell0).mono ?_
      rintro e w' ⟨rfl, rfl⟩
      exact ⟨rfl, hp, Below.refl b w, Lib.OthersKept.refl _ _ w⟩
  clear hB hp
  go_enter Tryz.func37, Tryz.ntmps37
  go_wp2_with (go_at_call 74; fail)
  refine (hck).mono ?_
  rintro e w1 ⟨rfl, hb1, hB1, hK1⟩
  have d0 : w1.cell? ⟨b, 0, none⟩ = some (.pointer (some ⟨b, 0, none⟩)) := by rw [Lib.cell_of_heap hb1]; rfl
  have d1 : w1.cell? ⟨b, 1, none⟩ = some (.slice none 0 0) := by rw [Lib.cell_of_heap hb1]; rfl
  have f1 : w1.frozen? ⟨b, 1, none⟩ = false := Lib.frozen_of_heap hb1 1
  have hs1 : (w1.setCell ⟨b, 1, none⟩ (.slice none 0 0)).heap[b]? = some (.cells #[.pointer (some ⟨b, 0, none⟩), .slice none 0 0] 59 (0, 0)) := set2k1 hb1
  have hB2 : Below b w (w1.setCell ⟨b, 1, none⟩ (.slice none 0 0)) := hB1.setCell (p := ⟨b, 1, none⟩) (Nat.le_refl _) _
  have hK2 : Lib.OthersKept 5 (some b) w (w1.setCell ⟨b, 1, none⟩ (.slice none 0 0)) := hK1.setCell ⟨b, 1, none⟩ rfl _
  go_wp2
  go_ret2
  refine ⟨⟨_, rfl⟩, ⟨.inr ⟨Nat.le_refl _, _, hs1, ?_, by simp [Value.ownBlock]⟩, by simp, fun _ => ⟨_, hs1⟩⟩, hB2, hK2⟩
  exact ⟨by simp, .inl ⟨rfl, by simp⟩⟩
/-- WriteString of any text. -/
theorem wr_any (b : Nat) (ns : List Int) (tx : ByteArray) (w : World) (h : Wr b ns w) (hlen : ns.length + tx.size ≤ 140737488355328) :
    Calls Tryz.prog 37 #[.pointer (some ⟨b, 0, none⟩), .string tx] w fun e w' => (∃ n : Int, e = .returned (.tuple #[.int .i64 n, .nilIface])) ∧ Wr b (ns ++ bytesL tx) w' ∧ Below b w w' ∧ Lib.OthersKept 5 (some b) w w' := by
  by_cases h0 : ns ++ bytesL tx = []
  · obtain ⟨h1, h2⟩ := List.append_eq_nil_iff.1 h0
    subst h1
    have h3 : tx.size = 0 := by
      have := bytesL_size tx
      rw [h2] at this
      simpa using this.symm
    have e := empty_of h3
    subst e
    exact wr_nothing b w h
  · have hk := wr_str_k b ns (bytesL tx) (bytesL_byte tx) h0 w h (by rw [bytesL_size]; exact hlen)
    rw [bytesL_str] at hk
    exact hk

end Go.Proofs.YtpflliophellgaaGreatDoor.N
