/- What a strings.Builder holds behind WriteString, and what String tells of it. nth.told, whatever the token. nth.written, whatever the values. nth.written, whatever the values: the walk. -/
import Derived.Test.YtdibldcnklgcjaaGreatDoorNSignAhead
import Derived.Lib.Builder
import Derived.Lib.AppendStr
import Derived.Shelf.RegionOpenPlain
import Derived.Lib.UnsafeStr
import Derived.Lib.OthersKept
namespace Go.Proofs.YtdibldcnklgcjaaGreatDoor.N
open Go.RowKit

theorem Tryz.info5 : (Tryz.prog.info? 5).map (fun i => (i.zero, i.size, i.bytes)) = some (some (.int .u8 0), 1, 1) := by kernel_rfl

theorem Tryz.size106 : (Tryz.prog.info? 106).map (·.size) = some 2 := by kernel_rfl

theorem Tryz.lies106 : liesAt Tryz.prog Tryz.prog.depth 106 (2 / Tryz.prog.cellsOf 106) 0 106 1 = true := by kernel_rfl

abbrev Bld (b : Nat) (bs : List Value) (w : World) : Prop := Lib.IsBuilder 106 5 b b bs w

abbrev BldU (b : Nat) (bs : List Value) (w : World) : Prop := Lib.BuilderAt 106 5 b b (.pointer (some ⟨b, 0, none⟩)) bs w

set_option maxHeartbeats 1000000 in
set_option maxRecDepth 100000 in
theorem check_used (b : Nat) (w : World) (h0 : w.cell? ⟨b, 0, none⟩ = some (.pointer (some ⟨b, 0, none⟩))) :
    Calls Tryz.prog 74 #[.pointer (some ⟨b, 0, none⟩)] w fun e w' => e = .returned (.tuple #[]) ∧ w = w' := by
  obtain ⟨j, hj, _⟩ := Option.map_eq_some_iff.1 Tryz.size106
  go_enter Tryz.func74, Tryz.ntmps74
  go_wp2
  rw [Lib.run_neq_ptr_same w _ Tryz.underlying104 hj]
  go_wp2
  go_end0
  exact ⟨rfl, rfl⟩

set_option maxHeartbeats 1000000 in
set_option maxRecDepth 100000 in
theorem check_fresh (b : Nat) (w : World) (h0 : w.cell? ⟨b, 0, none⟩ = some (.pointer none)) (hsh : w.shape? b = some (106, 2)) (hfz : w.frozen? ⟨b, 0, none⟩ = false) :
    Calls Tryz.prog 74 #[.pointer (some ⟨b, 0, none⟩)] w fun e w' => e = .returned (.tuple #[]) ∧ w.setCell ⟨b, 0, none⟩ (.pointer (some ⟨b, 0, none⟩)) = w' := by
  obtain ⟨j, hj, hjs⟩ := Option.map_eq_some_iff.1 Tryz.size106
  have h1 := Lib.run_to_unsafe w ⟨b, 0, none⟩ Tryz.underlying104 Tryz.underlying135 hj (by rw [hjs]; decide) hsh (Nat.zero_lt_succ 1)
  have h2 := Lib.run_from_unsafe w ⟨b, 0, none⟩ Tryz.underlying135 Tryz.underlying104 hj hsh Tryz.lies106
  go_enter Tryz.func74, Tryz.ntmps74
  go_wp2
  rw [run_callFunc_extern Tryz.func96 (by kernel_rfl) (by kernel_rfl) (by kernel_rfl) (e := Extern.AbiNoEscape.same) (by kernel_rfl), Lib.run_noEscape]
  simp only [Result.andThen]
  rw [Oper.upon_value]
  go_wp2
  go_end0
  exact ⟨rfl, rfl⟩

/-- A writer that holds these bytes. -/
def Wr (b : Nat) (ns : List Int) (w : World) : Prop := Bld b (ns.map (Value.int .u8)) w ∧ (∀ n ∈ ns, 0 ≤ n ∧ n < 256) ∧ (ns = [] → ∃ p, w.heap[b]? = some (.cells #[p, .slice none 0 0] 106 (0, 0)))

theorem wr_new (w : World) : Wr w.heap.size [] (w.alloc (.cells #[.pointer none, .slice none 0 0] 106)) :=
  ⟨Lib.fresh_isBuilder 106 5 w, by simp, fun _ => ⟨_, heap_alloc_new w _⟩⟩

theorem Tryz.cells5 : Tryz.prog.cellsOf 5 = 1 := by kernel_rfl

theorem byte_back {n : Int} (h : 0 ≤ n ∧ n < 256) : ((UInt8.ofNat n.toNat).toNat : Int) = n := by
  simp only [UInt8.toNat_ofNat']
  omega

set_option maxHeartbeats 2000000 in
set_option maxRecDepth 100000 in
theorem wr_string (b : Nat) (ns : List Int) (w : World) (h : Wr b ns w) :
    Calls Tryz.prog 52 #[.pointer (some ⟨b, 0, none⟩)] w fun e w' => e = .returned (.string (strOfNums ns)) ∧ Below b w w' := by
  obtain ⟨hB, hby, hem⟩ := h
  have mixed : Tryz.prog.follows Departure.mixedOrders = true := by kernel_rfl
  by_cases h0 : ns = []
  · subst h0
    obtain ⟨p, hbk⟩ := hem rfl
    have c1 : w.drew.cell? ⟨b, 1, none⟩ = some (.slice none 0 0) := by
      have : w.drew.heap[b]? = some (.cells #[p, .slice none 0 0] 106 (0, 0)) := hbk
      rw [Lib.cell_of_heap this]; rfl
    have hSD : (Builtin.unsafeSliceData_ #[50] 127 #[.slice none 0 0]).run Tryz.prog w.drew = .ok (.pointer none) w.drew := rfl
    have hUS : ∀ p, (Builtin.unsafeString_ #[127, 3] 9 #[.pointer p, .int .i64 0]).run Tryz.prog w.drew = .ok (.string .empty) w.drew := fun p => Lib.run_unsafeString_none _ _ _ _ p
    go_enter Tryz.func52, Tryz.ntmps52
    go_wp2
    go_region_o
    all_goals (go_wp2; go_ret; exact ⟨rfl, Below.drew (Below.refl b w)⟩)
  · have hat : ∃ p, Lib.BuilderAt 106 5 b b p (ns.map (Value.int .u8)) w := by
      rcases hB with h | h
      · exact ⟨_, h⟩
      · exact ⟨_, h⟩
    obtain ⟨p, hBb, v, hbk, hown, hne⟩ := hat
    have hl0 : ns.length ≠ 0 := by simpa using h0
    rw [List.length_map] at hown
    obtain ⟨g, cap, cur, rfl, hbg, hg, hnc, hcm, hcur, htake⟩ : ∃ g cap cur, v = .slice (some ⟨g, 0, none⟩) ns.length cap ∧ b ≤ g ∧ w.heap[g]? = some (.cells cur 5 (0, 0)) ∧ ns.length ≤ cap ∧ cap ≤ maxLen ∧ cur.size = cap * 1 ∧ cur.toList.take (ns.length * 1) = ns.map (Value.int .u8) := by
      rcases hown.2 with ⟨_, hz⟩ | ⟨g, cap, cur, hv, r⟩
      · exact absurd hz hl0
      · exact ⟨g, cap, cur, hv, r⟩
    have c1 : w.drew.cell? ⟨b, 1, none⟩ = some (.slice (some ⟨g, 0, none⟩) ns.length cap) := by
      have : w.drew.heap[b]? = some (.cells #[p, .slice (some ⟨g, 0, none⟩) ns.length cap] 106 (0, 0)) := hbk
      rw [Lib.cell_of_heap this]; rfl
    have hSD : (Builtin.unsafeSliceData_ #[50] 127 #[.slice (some ⟨g, 0, none⟩) ns.length cap]).run Tryz.prog w.drew = .ok (.pointer (some ⟨g, 0, none⟩)) w.drew :=
      Lib.run_unsafeSliceData_row _ _ _ _ _ _ (by omega)
    have hUS : (Builtin.unsafeString_ #[127, 3] 9 #[.pointer (some ⟨g, 0, none⟩), .int .i64 ns.length]).run Tryz.prog w.drew = .ok (.string (strOfNums ns)) (w.drew.freeze ⟨g, 0, none⟩ ns.length) := by
      have := Lib.run_unsafeString_row w.drew 127 3 9 5 Tryz.underlying127 Tryz.cells5 g cur.size (by have hg' : w.drew.heap[g]? = some (.cells cur 5 (0, 0)) := hg; simp [World.shape?, hg']) (ns.map fun n => UInt8.ofNat n.toNat) (by simpa using h0) (by simp; omega) (by simp; unfold maxLen at hcm; omega) ?_
      · rw [List.length_map] at this
        exact this
      · intro j x hx
        simp only [List.getElem?_map, Option.map_eq_some_iff] at hx
        obtain ⟨n, hn, rfl⟩ := hx
        have hm := hby n (List.mem_of_getElem? hn)
        rw [byte_back hm]
        exact hown.cells (g := g) rfl j (.int .u8 n) (by simp [hn])
    have HB : Below b w (w.drew.freeze ⟨g, 0, none⟩ ns.length) := Lib.below_freeze (Below.drew (Below.refl b w)) (p := ⟨g, 0, none⟩) hbg _
    clear hB
    generalize strOfNums ns = S at hUS ⊢
    go_enter Tryz.func52, Tryz.ntmps52
    go_wp2
    go_region_o
    all_goals (go_wp2; go_ret; exact ⟨rfl, HB⟩)

/-- All blocks but one, and but a row of bytes, stand as they stood. -/
theorem check_k (b : Nat) (bs : List Value) (w : World) (h : Bld b bs w) :
    Calls Tryz.prog 74 #[.pointer (some ⟨b, 0, none⟩)] w fun e w' => e = .returned (.tuple #[]) ∧ BldU b bs w' ∧ Below b w w' ∧ Lib.OthersKept 5 (some b) w w' := by
  rcases h with h | h
  · refine (check_fresh b w h.cell0 h.shape h.frozen0).mono ?_
    rintro e w' ⟨rfl, rfl⟩
    exact ⟨rfl, h.used _, (Below.refl b w).setCell (p := ⟨b, 0, none⟩) (Nat.le_refl _) _, (Lib.OthersKept.refl _ _ w).setCell ⟨b, 0, none⟩ rfl _⟩
  · refine (check_used b w h.cell0).mono ?_
    rintro e w' ⟨rfl, rfl⟩
    exact ⟨rfl, h, Below.refl b w, Lib.OthersKept.refl _ _ w⟩

theorem str_cells (s : List Int) (hs : ∀ n ∈ s, 0 ≤ n ∧ n < 256) : Lib.strCells (strOfNums s) = s.map (Value.int .u8) := by
  rw [Lib.strCells_eq]
  show ((s.map fun n => UInt8.ofNat n.toNat).toArray.toList).map _ = _
  simp only [List.map_map]
  apply List.map_congr_left
  intro n hn
  show Value.int IntKind.u8 ((UInt8.ofNat n.toNat).toNat : Int) = _
  rw [byte_back (hs n hn)]

set_option maxHeartbeats 2000000 in
set_option maxRecDepth 100000 in
theorem wr_str_k (b : Nat) (ns s : List Int) (hs : ∀ n ∈ s, 0 ≤ n ∧ n < 256) (h0 : ns ++ s ≠ []) (w : World) (h : Wr b ns w) (hlen : ns.length + s.length ≤ 140737488355328) :
    Calls Tryz.prog 118 #[.pointer (some ⟨b, 0, none⟩), .string (strOfNums s)] w fun e w' => (∃ n : Int, e = .returned (.tuple #[.int .i64 n, .nilIface])) ∧ Wr b (ns ++ s) w' ∧ Below b w w' ∧ Lib.OthersKept 5 (some b) w w' := by
  obtain ⟨i0, hi, hz0, hz1, hz2⟩ := info_parts Tryz.info5
  obtain ⟨hB, hby, _⟩ := h
  have hss : (strOfNums s).size = s.length := strOf_size s
  have hs0 : 0 < ns.length + s.length := by have := List.length_pos_iff.2 h0; rwa [List.length_append] at this
  go_enter Tryz.func118, Tryz.ntmps118
  go_wp2_with (go_at_call 74; fail)
  refine (check_k b _ w hB).mono ?_
  rintro e w1 ⟨rfl, hU, hb1, hk1⟩
  obtain ⟨hBb, v, hbk, hown, hne⟩ := hU
  have hlt : b < w1.heap.size := (Array.getElem?_eq_some_iff.1 hbk).1
  have c0 : w1.cell? ⟨b, 0, none⟩ = some (.pointer (some ⟨b, 0, none⟩)) := by rw [Lib.cell_of_heap hbk]; rfl
  have c1 : w1.cell? ⟨b, 1, none⟩ = some v := by rw [Lib.cell_of_heap hbk]; rfl
  rw [List.length_map] at hown
  go_wp2_with (at_builtin; refine Lib.wpList_append_own_string _ rfl _ _ 50 9 rfl b 5 i0 Tryz.underlying50 Tryz.underlying9 hi hz0 hz1 hz2 _ _ _ rfl hown (strOfNums s) rfl ?c3 ?c4 ?c5 ?_)
  case c3 => unfold maxLen; omega
  case c4 => omega
  case c5 => omega
  intro v' w2 ho2 hg _
  have hb2 : w2.heap[b]? = some (.cells #[.pointer (some ⟨b, 0, none⟩), v] 106 (0, 0)) := by
    rw [hg.block b hlt (fun e => hne e.symm)]
    exact hbk
  have d0 : w2.cell? ⟨b, 0, none⟩ = some (.pointer (some ⟨b, 0, none⟩)) := by rw [Lib.cell_of_heap hb2]; rfl
  have d1 : w2.cell? ⟨b, 1, none⟩ = some v := by rw [Lib.cell_of_heap hb2]; rfl
  have f1 : w2.frozen? ⟨b, 1, none⟩ = false := Lib.frozen_of_heap hb2 1
  rw [str_cells s hs] at ho2
  obtain ⟨g, cap, rfl⟩ : ∃ g cap, v' = .slice (some ⟨g, 0, none⟩) (ns.length + s.length) cap := by
    rcases ho2.2 with ⟨_, h0⟩ | ⟨g, cap, cur, hv, _⟩
    · omega
    · exact ⟨g, cap, hv⟩
  have HP : BldU b ((ns ++ s).map (Value.int .u8)) (w2.setCell ⟨b, 1, none⟩ (.slice (some ⟨g, 0, none⟩) (ns.length + s.length) cap)) :=
    Lib.BuilderAt.put (T := 106) (e := 5) (bs' := (ns ++ s).map (Value.int .u8)) (Nat.le_refl _) hb2 (by simpa using ho2) (by decide)
  have HB : Below b w (w2.setCell ⟨b, 1, none⟩ (.slice (some ⟨g, 0, none⟩) (ns.length + s.length) cap)) := (hb1.grown hg (by omega) (fun k hk => (hown.lt k hk).1)).setCell (p := ⟨b, 1, none⟩) (Nat.le_refl _) _
  have HK : Lib.OthersKept 5 (some b) w (w2.setCell ⟨b, 1, none⟩ (.slice (some ⟨g, 0, none⟩) (ns.length + s.length) cap)) := (hk1.grown hg (Lib.ownsRowF_kind (World.ownsRowF_of hown))).setCell ⟨b, 1, none⟩ rfl _
  clear ho2 hg hown hne hss
  generalize strOfNums s = S at *
  go_wp2
  go_ret2
  refine ⟨⟨_, rfl⟩, ⟨.inr HP, ?_, fun h2 => ?_⟩, HB, HK⟩
  · intro n hn
    rcases List.mem_append.1 hn with hn | hn
    · exact hby n hn
    · exact hs n hn
  · exact absurd h2 h0


theorem append_nothing (w : World) (ty : TypeId) : (Builtin.append_ #[50, 9] ty #[.slice none 0 0, .string ⟨#[]⟩]).run Tryz.prog w = .ok (.slice none 0 0) w := by
  obtain ⟨i0, hi, hz0, hz1, hz2⟩ := info_parts Tryz.info5
  have h0 : (⟨#[]⟩ : ByteArray).size = 0 := rfl
  have hf := Lib.run_firstCells_string (P := Tryz.prog) w 1 ⟨#[]⟩
  rw [h0] at hf
  simp [hf, Builtin.append_, run_underlying Tryz.underlying50, run_underlying Tryz.underlying9, sizeOf, typeInfo, hi, hz1, Builtin.lenOf, h0]
theorem set2k {w : World} {b : Nat} {x0 x1 u : Value} {T : TypeId} (h : w.heap[b]? = some (.cells #[x0, x1] T (0, 0))) : (w.setCell ⟨b, 0, none⟩ u).heap[b]? = some (.cells #[u, x1] T (0, 0)) := by
  simp [World.setCell, Array.getElem?_modify, h]
theorem set2k1 {w : World} {b : Nat} {x0 x1 u : Value} {T : TypeId} (h : w.heap[b]? = some (.cells #[x0, x1] T (0, 0))) : (w.setCell ⟨b, 1, none⟩ u).heap[b]? = some (.cells #[x0, u] T (0, 0)) := by
  simp [World.setCell, Array.getElem?_modify, h]

set_option maxHeartbeats 2000000 in
set_option maxRecDepth 100000 in
/-- WriteString of an empty text to a builder that holds nothing. -/
theorem wr_nothing (b : Nat) (w : World) (h : Wr b [] w) :
    Calls Tryz.prog 118 #[.pointer (some ⟨b, 0, none⟩), .string ⟨#[]⟩] w fun e w' => (∃ n : Int, e = .returned (.tuple #[.int .i64 n, .nilIface])) ∧ Wr b [] w' ∧ Below b w w' ∧ Lib.OthersKept 5 (some b) w w' := by
  obtain ⟨hB, _, hnil⟩ := h
  obtain ⟨p, hp⟩ := hnil rfl
  have hap := fun w ty => append_nothing w ty
  have hck : Calls Tryz.prog 74 #[.pointer (some ⟨b, 0, none⟩)] w fun e w' => e = .returned (.tuple #[]) ∧ w'.heap[b]? = some (.cells #[.pointer (some ⟨b, 0, none⟩), .slice none 0 0] 106 (0, 0)) ∧ Below b w w' ∧ Lib.OthersKept 5 (some b) w w' := by
    rcases hB with h | h
    · have hpe : p = .pointer none := by
        obtain ⟨_, v, hb, _⟩ := h
        rw [hp] at hb
        simp at hb
        exact hb.1
      subst hpe
      refine (check_fresh b w h.cell0 h.shape h.frozen0).mono ?_
      rintro e w' ⟨rfl, rfl⟩
      exact ⟨rfl, set2k hp, (Below.refl b w).setCell (p := ⟨b, 0, none⟩) (Nat.le_refl _) _, (Lib.OthersKept.refl _ _ w).setCell ⟨b, 0, none⟩ rfl _⟩
    · have hpe : p = .pointer (some ⟨b, 0, none⟩) := by
        obtain ⟨_, v, hb, _⟩ := h
        rw [hp] at hb
        simp at hb
        exact hb.1
      subst hpe
      refine (check_used b w h.cell0).mono ?_
      rintro e w' ⟨rfl, rfl⟩
      exact ⟨rfl, hp, Below.refl b w, Lib.OthersKept.refl _ _ w⟩
  clear hB hp
  go_enter Tryz.func118, Tryz.ntmps118
  go_wp2_with (go_at_call 74; fail)
  refine (hck).mono ?_
  rintro e w1 ⟨rfl, hb1, hB1, hK1⟩
  have d0 : w1.cell? ⟨b, 0, none⟩ = some (.pointer (some ⟨b, 0, none⟩)) := by rw [Lib.cell_of_heap hb1]; rfl
  have d1 : w1.cell? ⟨b, 1, none⟩ = some (.slice none 0 0) := by rw [Lib.cell_of_heap hb1]; rfl
  have f1 : w1.frozen? ⟨b, 1, none⟩ = false := Lib.frozen_of_heap hb1 1
  have hs1 : (w1.setCell ⟨b, 1, none⟩ (.slice none 0 0)).heap[b]? = some (.cells #[.pointer (some ⟨b, 0, none⟩), .slice none 0 0] 106 (0, 0)) := set2k1 hb1
  have hB2 : Below b w (w1.setCell ⟨b, 1, none⟩ (.slice none 0 0)) := hB1.setCell (p := ⟨b, 1, none⟩) (Nat.le_refl _) _
  have hK2 : Lib.OthersKept 5 (some b) w (w1.setCell ⟨b, 1, none⟩ (.slice none 0 0)) := hK1.setCell ⟨b, 1, none⟩ rfl _
  go_wp2
  go_ret2
  refine ⟨⟨_, rfl⟩, ⟨.inr ⟨Nat.le_refl _, _, hs1, ?_, by simp [Value.ownBlock]⟩, by simp, fun _ => ⟨_, hs1⟩⟩, hB2, hK2⟩
  exact ⟨by simp, .inl ⟨rfl, by simp⟩⟩
/-- WriteString of any text. -/
theorem wr_any (b : Nat) (ns : List Int) (tx : ByteArray) (w : World) (h : Wr b ns w) (hlen : ns.length + tx.size ≤ 140737488355328) :
    Calls Tryz.prog 118 #[.pointer (some ⟨b, 0, none⟩), .string tx] w fun e w' => (∃ n : Int, e = .returned (.tuple #[.int .i64 n, .nilIface])) ∧ Wr b (ns ++ bytesL tx) w' ∧ Below b w w' ∧ Lib.OthersKept 5 (some b) w w' := by
  by_cases h0 : ns ++ bytesL tx = []
  · obtain ⟨h1, h2⟩ := List.append_eq_nil_iff.1 h0
    subst h1
    have h3 : tx.size = 0 := by
      have := bytesL_size tx
      rw [h2] at this
      simpa using this.symm
    have e := empty_of h3
    subst e
    exact wr_nothing b w h
  · have hk := wr_str_k b ns (bytesL tx) (bytesL_byte tx) h0 w h (by rw [bytesL_size]; exact hlen)
    rw [bytesL_str] at hk
    exact hk

end Go.Proofs.YtdibldcnklgcjaaGreatDoor.N
namespace Go.Proofs.YtdibldcnklgcjaaGreatDoor.N
open Go.RowKit

theorem wr_below {w w' : World} {B : Nat} {ns : List Int} (h : Wr B ns w) (hk : Below w.heap.size w w') : Wr B ns w' := by
  obtain ⟨hB, hby, hem⟩ := h
  have aux : ∀ p, Lib.BuilderAt 106 5 B B p (ns.map (Value.int .u8)) w → Lib.BuilderAt 106 5 B B p (ns.map (Value.int .u8)) w' := by
    intro p hp
    obtain ⟨h1, v, hbk, hown, hne⟩ := hp
    have hlt : B < w.heap.size := (Array.getElem?_eq_some_iff.1 hbk).1
    refine ⟨h1, v, (hk.block B hlt).trans hbk, ⟨hown.1, ?_⟩, hne⟩
    rcases hown.2 with hn | ⟨g, cap, cur, hv, hbg, hg, rest⟩
    · exact .inl hn
    · exact .inr ⟨g, cap, cur, hv, hbg, (hk.block g ((Array.getElem?_eq_some_iff.1 hg).1)).trans hg, rest⟩
  refine ⟨hB.elim (fun x => .inl (aux _ x)) (fun x => .inr (aux _ x)), hby, fun h0 => ?_⟩
  obtain ⟨p, hp⟩ := hem h0
  exact ⟨p, (hk.block B ((Array.getElem?_eq_some_iff.1 hp).1)).trans hp⟩
theorem wr_lt {w : World} {b : Nat} {ns : List Int} (h : Wr b ns w) : b < w.heap.size := by
  rcases h.1 with h | h
  · obtain ⟨_, v, hb, _⟩ := h
    exact (Array.getElem?_eq_some_iff.1 hb).1
  · obtain ⟨_, v, hb, _⟩ := h
    exact (Array.getElem?_eq_some_iff.1 hb).1

theorem str_other {s : ByteArray} {c : UInt8} (h : s ≠ ⟨#[c]⟩) : (s == ⟨#[c]⟩) = false ∧ (s.toList == [c]) = false := by
  have h3 : (s.toList == [c]) = false := by
    rw [Bool.eq_false_iff]
    intro h2
    rw [beq_iff_eq, ByteArray.toList_eq] at h2
    exact h (ByteArray.ext (Array.toList_inj.1 h2))
  exact ⟨by rw [beq_toListBytes, ByteArray.toList_eq ⟨#[c]⟩]; exact h3, h3⟩
section
variable (b : Nat) (ns : List Int) (tx un : ByteArray) (wh fl : Bool) (w : World)

set_option maxHeartbeats 400000 in
set_option maxRecDepth 100000 in
theorem gather_any (h : Wr b ns w) (hl : ns.length + tx.size ≤ 140737488355328) :
    Calls Tryz.prog 117 #[.string tx, .pointer (some ⟨b, 0, none⟩)] w fun e w' => e = .returned (.tuple #[]) ∧ Wr b (ns ++ bytesL tx) w' ∧ Below b w w' ∧ Lib.OthersKept 5 (some b) w w' := by
  have hg := wr_any b ns tx w h hl
  go_enter Tryz.func117, Tryz.ntmps117
  go_wp2_with (go_at_call 118; fail)
  refine (hg).mono ?_
  rintro e w1 ⟨⟨rn, rfl⟩, h1, b1, k1⟩
  go_wp2
  go_end0
  exact ⟨rfl, h1, b1, k1⟩
theorem tok5 {W : World} {B : Nat} {x0 x1 x2 x3 x4 : Value} (h : W.heap[B]? = some (.cells #[x0, x1, x2, x3, x4] 69 (0, 0))) :
    W.cell? ⟨B, 0, none⟩ = some x0 ∧ W.cell? ⟨B, 1, none⟩ = some x1 ∧ W.cell? ⟨B, 2, none⟩ = some x2 ∧ W.cell? ⟨B, 3, none⟩ = some x3 ∧ W.cell? ⟨B, 4, none⟩ = some x4 := by
  refine ⟨?_, ?_, ?_, ?_, ?_⟩ <;> simp [World.cell?, h]

set_option maxHeartbeats 400000 in
set_option maxRecDepth 100000 in
theorem told_1 (h : Wr b ns w) (hl : ns.length + tx.size + un.size ≤ 140737488355328) :
    Calls Tryz.prog 119 #[.agg #[.int .i64 1, .string tx, .string un, .bool wh, .bool fl], (.func (.func 117) #[] #[.pointer (some ⟨b, 0, none⟩)])] w fun e w' => e = .returned (.bool (true)) ∧ Wr b (ns ++ bytesL tx) w' ∧ Below b w w' := by
  have hlt := wr_lt h
  have hal : Below w.heap.size w (w.alloc (.cells #[.int .i64 1, .string tx, .string un, .bool wh, .bool fl] 69)) := (Below.refl _ w).alloc (Nat.le_refl _) _
  have hnew := heap_alloc_new w (.cells #[.int .i64 1, .string tx, .string un, .bool wh, .bool fl] 69)
  have hne : w.heap.size ≠ b := by omega
  have hg := gather_any b ns tx _ (wr_below h hal) (by omega)
  go_enter Tryz.func119, Tryz.ntmps119
  go_wp2_with (go_at_call 117; fail)
  refine (hg).mono ?_
  rintro e w1 ⟨rfl, h1, b1, k1⟩
  obtain ⟨d0, d1, d2, d3, d4⟩ := tok5 (k1 w.heap.size _ hnew (fun e => hne (Option.some.inj e)) (fun _ _ e => by simp at e))
  go_wp2
  go_ret
  exact ⟨rfl, h1, (hal.mono (Nat.le_of_lt hlt)).trans b1⟩

set_option maxHeartbeats 400000 in
set_option maxRecDepth 100000 in
theorem told_10 (h : Wr b ns w) (hl : ns.length + tx.size + un.size ≤ 140737488355328) :
    Calls Tryz.prog 119 #[.agg #[.int .i64 10, .string tx, .string un, .bool wh, .bool fl], (.func (.func 117) #[] #[.pointer (some ⟨b, 0, none⟩)])] w fun e w' => e = .returned (.bool (wh)) ∧ Wr b (ns ++ bytesL tx) w' ∧ Below b w w' := by
  have hlt := wr_lt h
  have hal : Below w.heap.size w (w.alloc (.cells #[.int .i64 10, .string tx, .string un, .bool wh, .bool fl] 69)) := (Below.refl _ w).alloc (Nat.le_refl _) _
  have hnew := heap_alloc_new w (.cells #[.int .i64 10, .string tx, .string un, .bool wh, .bool fl] 69)
  have hne : w.heap.size ≠ b := by omega
  have hg := gather_any b ns tx _ (wr_below h hal) (by omega)
  go_enter Tryz.func119, Tryz.ntmps119
  go_wp2_with (go_at_call 117; fail)
  refine (hg).mono ?_
  rintro e w1 ⟨rfl, h1, b1, k1⟩
  obtain ⟨d0, d1, d2, d3, d4⟩ := tok5 (k1 w.heap.size _ hnew (fun e => hne (Option.some.inj e)) (fun _ _ e => by simp at e))
  go_wp2
  go_ret
  exact ⟨rfl, h1, (hal.mono (Nat.le_of_lt hlt)).trans b1⟩

set_option maxHeartbeats 400000 in
set_option maxRecDepth 100000 in
theorem told_12 (h : Wr b ns w) (hl : ns.length + tx.size + un.size ≤ 140737488355328) :
    Calls Tryz.prog 119 #[.agg #[.int .i64 12, .string tx, .string un, .bool wh, .bool fl], (.func (.func 117) #[] #[.pointer (some ⟨b, 0, none⟩)])] w fun e w' => e = .returned (.bool (wh)) ∧ Wr b (ns ++ bytesL tx ++ bytesL un) w' ∧ Below b w w' := by
  have hlt := wr_lt h
  have hal : Below w.heap.size w (w.alloc (.cells #[.int .i64 12, .string tx, .string un, .bool wh, .bool fl] 69)) := (Below.refl _ w).alloc (Nat.le_refl _) _
  have hnew := heap_alloc_new w (.cells #[.int .i64 12, .string tx, .string un, .bool wh, .bool fl] 69)
  have hne : w.heap.size ≠ b := by omega
  have hg := gather_any b ns tx _ (wr_below h hal) (by omega)
  go_enter Tryz.func119, Tryz.ntmps119
  go_wp2_with (go_at_call 117; fail)
  refine (hg).mono ?_
  rintro e w1 ⟨rfl, h1, b1, k1⟩
  obtain ⟨d0, d1, d2, d3, d4⟩ := tok5 (k1 w.heap.size _ hnew (fun e => hne (Option.some.inj e)) (fun _ _ e => by simp at e))
  have hg2 := gather_any b (ns ++ bytesL tx) un w1 h1 (by rw [List.length_append, bytesL_size]; omega)
  have hk1 := k1 w.heap.size _ hnew (fun e => hne (Option.some.inj e)) (fun _ _ e => by simp at e)
  go_wp2_with (go_at_call 117; fail)
  refine (hg2).mono ?_
  rintro e w2 ⟨rfl, h2, b2, k2⟩
  clear d0 d1 d2 d3 d4
  obtain ⟨d0, d1, d2, d3, d4⟩ := tok5 (k2 w.heap.size _ hk1 (fun e => hne (Option.some.inj e)) (fun _ _ e => by simp at e))
  go_wp2
  go_ret
  exact ⟨rfl, h2, (hal.mono (Nat.le_of_lt hlt)).trans (b1.trans b2)⟩

set_option maxHeartbeats 400000 in
set_option maxRecDepth 100000 in
theorem told_9p (h : Wr b ns w) (hl : ns.length + 1 ≤ 140737488355328) :
    Calls Tryz.prog 119 #[.agg #[.int .i64 9, .string ⟨#[43]⟩, .string un, .bool wh, .bool fl], (.func (.func 117) #[] #[.pointer (some ⟨b, 0, none⟩)])] w fun e w' => e = .returned (.bool (true)) ∧ Wr b (ns ++ bytesL ⟨#[43]⟩) w' ∧ Below b w w' := by
  have hlt := wr_lt h
  have hal : Below w.heap.size w (w.alloc (.cells #[.int .i64 9, .string ⟨#[43]⟩, .string un, .bool wh, .bool fl] 69)) := (Below.refl _ w).alloc (Nat.le_refl _) _
  have hnew := heap_alloc_new w (.cells #[.int .i64 9, .string ⟨#[43]⟩, .string un, .bool wh, .bool fl] 69)
  have hne : w.heap.size ≠ b := by omega
  have hg := gather_any b ns ⟨#[43]⟩ _ (wr_below h hal) (by show ns.length + 1 ≤ _; omega)
  go_enter Tryz.func119, Tryz.ntmps119
  go_wp2_with (go_at_call 117; fail)
  refine (hg).mono ?_
  rintro e w1 ⟨rfl, h1, b1, k1⟩
  obtain ⟨d0, d1, d2, d3, d4⟩ := tok5 (k1 w.heap.size _ hnew (fun e => hne (Option.some.inj e)) (fun _ _ e => by simp at e))
  go_wp2
  go_ret
  exact ⟨rfl, h1, (hal.mono (Nat.le_of_lt hlt)).trans b1⟩

set_option maxHeartbeats 400000 in
set_option maxRecDepth 100000 in
theorem told_9m (h : Wr b ns w) (hl : ns.length + 1 ≤ 140737488355328) :
    Calls Tryz.prog 119 #[.agg #[.int .i64 9, .string ⟨#[45]⟩, .string un, .bool wh, .bool fl], (.func (.func 117) #[] #[.pointer (some ⟨b, 0, none⟩)])] w fun e w' => e = .returned (.bool (true)) ∧ Wr b (ns ++ bytesL ⟨#[45]⟩) w' ∧ Below b w w' := by
  have hlt := wr_lt h
  have hal : Below w.heap.size w (w.alloc (.cells #[.int .i64 9, .string ⟨#[45]⟩, .string un, .bool wh, .bool fl] 69)) := (Below.refl _ w).alloc (Nat.le_refl _) _
  have hnew := heap_alloc_new w (.cells #[.int .i64 9, .string ⟨#[45]⟩, .string un, .bool wh, .bool fl] 69)
  have hne : w.heap.size ≠ b := by omega
  have hg := gather_any b ns ⟨#[45]⟩ _ (wr_below h hal) (by show ns.length + 1 ≤ _; omega)
  go_enter Tryz.func119, Tryz.ntmps119
  go_wp2_with (go_at_call 117; fail)
  refine (hg).mono ?_
  rintro e w1 ⟨rfl, h1, b1, k1⟩
  obtain ⟨d0, d1, d2, d3, d4⟩ := tok5 (k1 w.heap.size _ hnew (fun e => hne (Option.some.inj e)) (fun _ _ e => by simp at e))
  go_wp2
  go_ret
  exact ⟨rfl, h1, (hal.mono (Nat.le_of_lt hlt)).trans b1⟩

set_option maxHeartbeats 400000 in
set_option maxRecDepth 100000 in
theorem told_9n (h : Wr b ns w) (hl : ns.length + tx.size + un.size ≤ 140737488355328) (n43 : tx ≠ ⟨#[43]⟩) (n45 : tx ≠ ⟨#[45]⟩) :
    Calls Tryz.prog 119 #[.agg #[.int .i64 9, .string tx, .string un, .bool wh, .bool fl], (.func (.func 117) #[] #[.pointer (some ⟨b, 0, none⟩)])] w fun e w' => e = .returned (.bool (false)) ∧ Wr b (ns ++ bytesL tx) w' ∧ Below b w w' := by
  have hlt := wr_lt h
  have hal : Below w.heap.size w (w.alloc (.cells #[.int .i64 9, .string tx, .string un, .bool wh, .bool fl] 69)) := (Below.refl _ w).alloc (Nat.le_refl _) _
  have hnew := heap_alloc_new w (.cells #[.int .i64 9, .string tx, .string un, .bool wh, .bool fl] 69)
  have hne : w.heap.size ≠ b := by omega
  have hg := gather_any b ns tx _ (wr_below h hal) (by omega)
  have z1 : (tx == ⟨#[43]⟩) = false ∧ (tx.toList == [43]) = false := str_other n43
  have z2 : (tx == ⟨#[45]⟩) = false ∧ (tx.toList == [45]) = false := str_other n45
  obtain ⟨z3, z4⟩ := z1
  obtain ⟨z5, z6⟩ := z2
  clear n43 n45
  go_enter Tryz.func119, Tryz.ntmps119
  go_wp2_with (go_at_call 117; fail)
  refine (hg).mono ?_
  rintro e w1 ⟨rfl, h1, b1, k1⟩
  obtain ⟨d0, d1, d2, d3, d4⟩ := tok5 (k1 w.heap.size _ hnew (fun e => hne (Option.some.inj e)) (fun _ _ e => by simp at e))
  go_wp2
  go_ret
  exact ⟨rfl, h1, (hal.mono (Nat.le_of_lt hlt)).trans b1⟩

set_option maxHeartbeats 400000 in
set_option maxRecDepth 100000 in
theorem told_13 (h : Wr b ns w) (hl : ns.length + 1 ≤ 140737488355328) :
    Calls Tryz.prog 119 #[.agg #[.int .i64 13, .string tx, .string un, .bool wh, .bool fl], (.func (.func 117) #[] #[.pointer (some ⟨b, 0, none⟩)])] w fun e w' => e = .returned (.bool (true)) ∧ Wr b (ns ++ bytesL ⟨#[32]⟩) w' ∧ Below b w w' := by
  have hlt := wr_lt h
  have hal : Below w.heap.size w (w.alloc (.cells #[.int .i64 13, .string tx, .string un, .bool wh, .bool fl] 69)) := (Below.refl _ w).alloc (Nat.le_refl _) _
  have hnew := heap_alloc_new w (.cells #[.int .i64 13, .string tx, .string un, .bool wh, .bool fl] 69)
  have hne : w.heap.size ≠ b := by omega
  have hg := gather_any b ns ⟨#[32]⟩ _ (wr_below h hal) (by show ns.length + 1 ≤ _; omega)
  go_enter Tryz.func119, Tryz.ntmps119
  go_wp2_with (go_at_call 117; fail)
  refine (hg).mono ?_
  rintro e w1 ⟨rfl, h1, b1, k1⟩
  obtain ⟨d0, d1, d2, d3, d4⟩ := tok5 (k1 w.heap.size _ hnew (fun e => hne (Option.some.inj e)) (fun _ _ e => by simp at e))
  go_wp2
  go_ret
  exact ⟨rfl, h1, (hal.mono (Nat.le_of_lt hlt)).trans b1⟩

set_option maxHeartbeats 400000 in
set_option maxRecDepth 100000 in
theorem told_no (h : Wr b ns w) (k : Int) (hk : ¬ (k = 1 ∨ k = 9 ∨ k = 10 ∨ k = 12 ∨ k = 13)) :
    Calls Tryz.prog 119 #[.agg #[.int .i64 k, .string tx, .string un, .bool wh, .bool fl], (.func (.func 117) #[] #[.pointer (some ⟨b, 0, none⟩)])] w fun e w' => e = .returned (.bool (false)) ∧ Wr b (ns) w' ∧ Below b w w' := by
  have hlt := wr_lt h
  have hal : Below w.heap.size w (w.alloc (.cells #[.int .i64 k, .string tx, .string un, .bool wh, .bool fl] 69)) := (Below.refl _ w).alloc (Nat.le_refl _) _
  have hnew := heap_alloc_new w (.cells #[.int .i64 k, .string tx, .string un, .bool wh, .bool fl] 69)
  have hne : w.heap.size ≠ b := by omega
  have h1 : (k == 1) = false := by simp; omega
  have h9 : (k == 9) = false := by simp; omega
  have h10 : (k == 10) = false := by simp; omega
  have h12 : (k == 12) = false := by simp; omega
  have h13 : (k == 13) = false := by simp; omega
  have hw := wr_below h hal
  clear hk
  go_enter Tryz.func119, Tryz.ntmps119
  go_wp2
  go_ret
  exact ⟨rfl, hw, hal.mono (Nat.le_of_lt hlt)⟩
end

end Go.Proofs.YtdibldcnklgcjaaGreatDoor.N
namespace Go.Proofs.YtdibldcnklgcjaaGreatDoor.N
open Go.RowKit

/-- What is written of a token; none: it may not stand here. -/
def toldZ (k : Int) (tx un : ByteArray) (wh : Bool) : Option (List Int) :=
  if k = 1 then some (bytesL tx)
  else if k = 10 then (if wh then some (bytesL tx) else none)
  else if k = 12 then (if wh then some (bytesL tx ++ bytesL un) else none)
  else if k = 9 then (if tx = ⟨#[43]⟩ ∨ tx = ⟨#[45]⟩ then some (bytesL tx) else none)
  else if k = 13 then some [32] else none
theorem told_any (b : Nat) (ns : List Int) (k : Int) (tx un : ByteArray) (wh fl : Bool) (w : World) (h : Wr b ns w) (hl : ns.length + tx.size + un.size + 1 ≤ 140737488355328) :
    Calls Tryz.prog 119 #[.agg #[.int .i64 k, .string tx, .string un, .bool wh, .bool fl], (.func (.func 117) #[] #[.pointer (some ⟨b, 0, none⟩)])] w fun e w' => ∃ (ok : Bool) (part : List Int), e = .returned (.bool ok) ∧ Wr b (ns ++ part) w' ∧ Below b w w' ∧ ((ok = true ∧ toldZ k tx un wh = some part) ∨ (ok = false ∧ toldZ k tx un wh = none)) := by
  by_cases k1 : k = 1
  · subst k1
    refine (told_1 b ns tx un wh fl w h (by omega)).mono ?_
    rintro e w' ⟨rfl, h1, h2⟩
    exact ⟨true, _, rfl, h1, h2, .inl ⟨rfl, rfl⟩⟩
  by_cases k10 : k = 10
  · subst k10
    refine (told_10 b ns tx un wh fl w h (by omega)).mono ?_
    rintro e w' ⟨rfl, h1, h2⟩
    refine ⟨wh, _, rfl, h1, h2, ?_⟩
    cases wh
    · exact .inr ⟨rfl, rfl⟩
    · exact .inl ⟨rfl, rfl⟩
  by_cases k12 : k = 12
  · subst k12
    refine (told_12 b ns tx un wh fl w h (by omega)).mono ?_
    rintro e w' ⟨rfl, h1, h2⟩
    refine ⟨wh, bytesL tx ++ bytesL un, rfl, by rw [← List.append_assoc]; exact h1, h2, ?_⟩
    cases wh
    · exact .inr ⟨rfl, rfl⟩
    · exact .inl ⟨rfl, rfl⟩
  by_cases k9 : k = 9
  · subst k9
    by_cases p43 : tx = ⟨#[43]⟩
    · subst p43
      refine (told_9p b ns un wh fl w h (by omega)).mono ?_
      rintro e w' ⟨rfl, h1, h2⟩
      exact ⟨true, _, rfl, h1, h2, .inl ⟨rfl, by unfold toldZ; simp⟩⟩
    by_cases p45 : tx = ⟨#[45]⟩
    · subst p45
      refine (told_9m b ns un wh fl w h (by omega)).mono ?_
      rintro e w' ⟨rfl, h1, h2⟩
      exact ⟨true, _, rfl, h1, h2, .inl ⟨rfl, by unfold toldZ; simp⟩⟩
    refine (told_9n b ns tx un wh fl w h (by omega) p43 p45).mono ?_
    rintro e w' ⟨rfl, h1, h2⟩
    exact ⟨false, _, rfl, h1, h2, .inr ⟨rfl, by unfold toldZ; simp [p43, p45]⟩⟩
  by_cases k13 : k = 13
  · subst k13
    refine (told_13 b ns tx un wh fl w h (by omega)).mono ?_
    rintro e w' ⟨rfl, h1, h2⟩
    exact ⟨true, _, rfl, h1, h2, .inl ⟨rfl, rfl⟩⟩
  refine (told_no b ns tx un wh fl w h k (by omega)).mono ?_
  rintro e w' ⟨rfl, h1, h2⟩
  exact ⟨false, [], rfl, by rw [List.append_nil]; exact h1, h2, .inr ⟨rfl, by unfold toldZ; simp [k1, k9, k10, k12, k13]⟩⟩

/-- A value: its token, and where its Kids lie. -/
structure Tk where
  k : Int
  tx : ByteArray
  un : ByteArray
  wh : Bool
  fl : Bool
  kid : Value
def tkCells (t : Tk) : List Value := [.int .i64 t.k, .string t.tx, .string t.un, .bool t.wh, .bool t.fl, t.kid]
def Kid (v : Value) : Prop := ∃ a l c, v = .slice a l c
/-- The slice v holds the values ts. -/
def ValsAt (W : World) (v : Value) (ts : List Tk) : Prop :=
  ∃ a cap, v = .slice a ts.length cap ∧ ts.length ≤ cap ∧ cap ≤ 9223372036854775807 ∧ (∀ t ∈ ts, Kid t.kid) ∧ (0 < ts.length → ∃ b off, a = some ⟨b, off, none⟩ ∧ b < W.heap.size ∧ ∀ i (h : i < ts.length), ∀ j y, (tkCells (ts[i]'h))[j]? = some y → W.cell? ⟨b, off + i * 6 + j, none⟩ = some y)
theorem ValsAt.below {W W' : World} {v : Value} {ts : List Tk} (h : ValsAt W v ts) (hb : Below W.heap.size W W') : ValsAt W' v ts := by
  obtain ⟨a, cap, hv, h1, h2, h3, h4⟩ := h
  refine ⟨a, cap, hv, h1, h2, h3, fun h0 => ?_⟩
  obtain ⟨b, off, ha, hlt, hc⟩ := h4 h0
  exact ⟨b, off, ha, Nat.lt_of_lt_of_le hlt hb.size, fun i h j y hy => (hb.cell (p := ⟨b, off + i * 6 + j, none⟩) hlt).trans (hc i h j y hy)⟩
theorem list_of {α : Type} {P : Nat → α → Prop} : ∀ n, (∀ i, i < n → ∃ x, P i x) → ∃ l : List α, l.length = n ∧ ∀ i (h : i < l.length), P i (l[i]'h)
  | 0, _ => ⟨[], rfl, fun i h => by simp at h⟩
  | n + 1, h => by
    obtain ⟨l, hl, hp⟩ := list_of n (fun i hi => h i (by omega))
    obtain ⟨x, hx⟩ := h n (by omega)
    refine ⟨l ++ [x], by simp [hl], fun i hi => ?_⟩
    by_cases hin : i < l.length
    · rw [List.getElem_append_left hin]
      exact hp i hin
    · have hi' : i = n := by simp at hi; omega
      subst hi'
      rw [List.getElem_append_right (by omega)]
      simpa using hx
def toldT (t : Tk) : Option (List Int) := toldZ t.k t.tx t.un t.wh
def gathered : List Tk → Option (List Int)
  | [] => some []
  | t :: r => match toldT t, gathered r with
    | some a, some c => some (a ++ c)
    | _, _ => none
theorem gathered_snoc : ∀ (l : List Tk) (t : Tk), gathered (l ++ [t]) = match gathered l, toldT t with | some a, some c => some (a ++ c) | _, _ => none
  | [], t => by
    simp only [List.nil_append, gathered]
    cases toldT t <;> simp
  | x :: r, t => by
    simp only [List.cons_append, gathered, gathered_snoc r t]
    cases toldT x <;> cases gathered r <;> cases toldT t <;> simp
theorem gathered_none : ∀ (l : List Tk) (t : Tk), t ∈ l → toldT t = none → gathered l = none
  | x :: r, t, h, hn => by
    rcases List.mem_cons.1 h with rfl | h
    · simp [gathered, hn]
    · have := gathered_none r t h hn
      simp only [gathered, this]
      cases toldT x <;> rfl

end Go.Proofs.YtdibldcnklgcjaaGreatDoor.N
namespace Go.Proofs.YtdibldcnklgcjaaGreatDoor.N
open Go.RowKit

def wrt (g : Option (List Int)) : ByteArray × Bool := match g with
  | some p => (strOfNums p, true)
  | none => (⟨#[]⟩, false)
theorem ret_sb {a c : ByteArray} {x y : Bool} (h : (a, x) = (c, y)) : Ending.returned (.tuple #[.string a, .bool x]) = .returned (.tuple #[.string c, .bool y]) := by cases h; rfl
theorem told_len {t : Tk} {p : List Int} (h : toldT t = some p) (hs : t.tx.size + t.un.size ≤ 2000000) : p.length ≤ 2000001 := by
  unfold toldT toldZ at h
  have b1 := bytesL_size t.tx
  have b2 := bytesL_size t.un
  repeat' split at h
  all_goals first | (cases h; done) | (cases h; show 1 ≤ 2000001; omega) | (cases h; simp; omega) | (cases h; rw [List.length_append]; omega) | (cases h; omega)

theorem gathered_step {l : List Tk} {t : Tk} {part p : List Int} (hg : gathered l = some part) (ht : toldT t = some p) : gathered (l ++ [t]) = some (part ++ p) := by
  rw [gathered_snoc, hg, ht]
set_option maxHeartbeats 2000000 in
set_option maxRecDepth 100000 in
theorem written_any (W : World) (v : Value) (ts : List Tk) (hv : ValsAt W v ts) (hn : ts.length ≤ 100000) (hsz : ∀ t ∈ ts, t.tx.size + t.un.size ≤ 2000000) :
    Calls Tryz.prog 114 #[v] W fun e w' => e = .returned (.tuple #[.string (wrt (gathered ts)).1, .bool (wrt (gathered ts)).2]) ∧ Below W.heap.size W w' := by
  obtain ⟨a, cap, rfl, hl, hcap, hkid, hc⟩ := hv
  have hw0 := wr_new W
  have hal : Below W.heap.size W (W.alloc (.cells #[.pointer none, .slice none 0 0] 106)) := (Below.refl _ W).alloc (Nat.le_refl _) _
  go_enter Tryz.func114, Tryz.ntmps114
  go_wp2
  go_loopw [11] (fun a11 wr => ∃ (k : Nat) (part : List Int), a11 = .int .i64 k ∧ k ≤ ts.length ∧ Wr W.heap.size part wr ∧ gathered (ts.take k) = some part ∧ part.length ≤ 2000001 * k ∧ Below W.heap.size W wr) (fun a11 _ => ts.length + 1 - (intOf a11).toNat)
  case atStart => exact ⟨0, [], rfl, Nat.zero_le _, hw0, rfl, by simp, hal⟩
  case round =>
    obtain ⟨k, part, rfl, hk, hwr, hg, hpl, hbr⟩ := hrel
    have HG := hid_mk hg
    clear hg
    by_cases hlt : k < ts.length
    · obtain ⟨b, off, rfl, hbw, hcell⟩ := hc (by omega)
      have hcc : ∀ j y, (tkCells (ts[k]'hlt))[j]? = some y → wr.cell? ⟨b, off + k * 6 + j, none⟩ = some y := fun j y hy => (hbr.cell (p := ⟨b, off + k * 6 + j, none⟩) hbw).trans (hcell k hlt j y hy)
      have hmem : ts[k]'hlt ∈ ts := List.getElem_mem hlt
      have hs := hsz _ hmem
      have hkd := hkid _ hmem
      have HTK : Hid (ts.take (k + 1) = ts.take k ++ [ts[k]'hlt]) := by
        show _ = _
        rw [List.take_add_one]
        simp [hlt]
      have HNO : Hid (toldT (ts[k]'hlt) = none → gathered ts = none) := fun h => gathered_none ts _ hmem h
      have HLEN : Hid (∀ p, toldT (ts[k]'hlt) = some p → p.length ≤ 2000001) := fun p h => told_len h hs
      generalize ts[k]'hlt = t at *
      obtain ⟨kk, tx, un, wh, fl, kid⟩ := t
      have c0 := hcc 0 _ rfl
      have c1 := hcc 1 _ rfl
      have c2 := hcc 2 _ rfl
      have c3 := hcc 3 _ rfl
      have c4 := hcc 4 _ rfl
      have c5 := hcc 5 _ rfl
      simp only [Nat.add_zero] at c0 c1 c2 c3 c4 c5 hs hkd
      have hal2 : Below wr.heap.size wr (wr.alloc (.cells #[.int .i64 kk, .string tx, .string un, .bool wh, .bool fl, kid] 97)) := (Below.refl _ wr).alloc (Nat.le_refl _) _
      have hcall := told_any W.heap.size part kk tx un wh fl _ (wr_below hwr hal2) (by omega)
      have hltb := wr_lt hwr
      have hB2 : Below W.heap.size W (wr.alloc (.cells #[.int .i64 kk, .string tx, .string un, .bool wh, .bool fl, kid] 97)) := hbr.trans (hal2.mono hbr.size)
      clear hcc hcell hc hmem hkid hsz hwr
      obtain ⟨a', l', c', rfl⟩ := hkd
      all_goals
        go_wp2_with (go_at_call 119; fail)
        refine (hcall).mono ?_
        rintro e w3 ⟨ok, p3, rfl, hw3, b3, hor⟩
        have B3 := hB2.trans b3
        rcases hor with ⟨rfl, ht⟩ | ⟨rfl, ht⟩
        · have HT := hid_mk ht
          clear ht
          go_wp2
          go_roundw
          case rel =>
            refine ⟨k + 1, part ++ p3, by go_num, by omega, hw3, ?_, ?_, B3⟩
            · rw [HTK.out]
              exact gathered_step HG.out HT.out
            · have := HLEN.out p3 HT.out
              rw [List.length_append]
              omega
          case measure => simp [intOf]; omega
        · have HR : Hid (gathered ts = none) := HNO.out ht
          clear ht
          go_wp2
          go_ret2
          exact ⟨ret_sb (by rw [HR.out]; rfl), B3⟩
    · have HE : Hid (gathered ts = some part) := by
        show _ = _
        rw [← HG.out, List.take_of_length_le (by omega)]
      have hst := wr_string W.heap.size part wr hwr
      generalize hps : strOfNums part = PS at *
      have HPS := hid_mk hps
      clear hps
      go_wp2_with (go_at_call 52; fail)
      refine (hst).mono ?_
      rintro e w3 ⟨rfl, b3⟩
      go_wp2
      go_ret2
      exact ⟨ret_sb (by rw [HE.out, ← HPS.out]; rfl), hbr.trans b3⟩

end Go.Proofs.YtdibldcnklgcjaaGreatDoor.N
