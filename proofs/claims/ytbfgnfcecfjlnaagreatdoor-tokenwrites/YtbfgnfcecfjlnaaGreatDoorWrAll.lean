/- What a writer's builder holds behind each of its calls, with all that stands beside it. What the writer writes: a character by its number, with a backslash ahead, as within a name. -/
import Derived.Test.YtbfgnfcecfjlnaaGreatDoorFmt
import Derived.Lib.OthersKept
namespace Go.Proofs.YtbfgnfcecfjlnaaGreatDoor
open Go.RowKit
set_option maxRecDepth 100000

/-- All blocks but one, and but a row of bytes, stand as they stood. -/
theorem check_k (b : Nat) (bs : List Value) (w : World) (h : Bld b bs w) :
    Calls Tryz.prog 90 #[.pointer (some ⟨b, 0, none⟩)] w fun e w' => e = .returned (.tuple #[]) ∧ BldU b bs w' ∧ Below b w w' ∧ Lib.OthersKept 5 (some b) w w' := by
  rcases h with h | h
  · refine (check_fresh b w h.cell0 h.shape h.frozen0).mono ?_
    rintro e w' ⟨rfl, rfl⟩
    exact ⟨rfl, h.used _, (Below.refl b w).setCell (p := ⟨b, 0, none⟩) (Nat.le_refl _) _, (Lib.OthersKept.refl _ _ w).setCell ⟨b, 0, none⟩ rfl _⟩
  · refine (check_used b w h.cell0).mono ?_
    rintro e w' ⟨rfl, rfl⟩
    exact ⟨rfl, h, Below.refl b w, Lib.OthersKept.refl _ _ w⟩

set_option maxHeartbeats 2000000 in
set_option maxRecDepth 100000 in
theorem writeRune_k (b : Nat) (bs : List Value) (r : Int) (h0 : -2147483648 ≤ r) (h1 : r ≤ 2147483647) (w : World) (h : Bld b bs w) (hlen : bs.length + 4 ≤ 140737488355328) :
    Calls Tryz.prog 61 #[.pointer (some ⟨b, 0, none⟩), .int .i32 r] w fun e w' => (∃ n : Int, e = .returned (.tuple #[.int .i64 n, .nilIface])) ∧ BldU b (bs ++ (Lib.encodeRuneZ r).map (Value.int .u8)) w' ∧ Below b w w' ∧ Lib.OthersKept 5 (some b) w w' := by
  go_enter Tryz.func61, Tryz.ntmps61
  go_wp2_with (go_at_call 90; fail)
  refine (check_k b bs w h).mono ?_
  rintro e w1 ⟨rfl, hU, hb1, hk1⟩
  obtain ⟨hBb, v, hbk, hown, hne⟩ := hU
  have hlt : b < w1.heap.size := (Array.getElem?_eq_some_iff.1 hbk).1
  have c0 : w1.cell? ⟨b, 0, none⟩ = some (.pointer (some ⟨b, 0, none⟩)) := by rw [Lib.cell_of_heap hbk]; rfl
  have c1 : w1.cell? ⟨b, 1, none⟩ = some v := by rw [Lib.cell_of_heap hbk]; rfl
  have hap := append_own b v bs.length bs r h0 h1 w1 hown hlen (by omega)
  have hvs : ∃ a cap, v = .slice a bs.length cap := by
    rcases hown.2 with ⟨hv, hz⟩ | ⟨g, cap, cur, hv, _⟩
    · exact ⟨none, 0, by rw [hv, hz]⟩
    · exact ⟨_, cap, hv⟩
  obtain ⟨av, cv, hv⟩ := hvs
  subst hv
  have hbl : bs.length ≤ 140737488355328 := by omega
  go_wp2_with (go_at_call 93; fail)
  refine hap.mono ?_
  rintro e w2 ⟨v', rfl, ho2, o, hg⟩
  have hb2 : w2.heap[b]? = some (.cells #[.pointer (some ⟨b, 0, none⟩), .slice av bs.length cv] 58 (0, 0)) := by
    rw [hg.block b (by simp; omega) (fun e => hne e.symm), Lib.alloc_old w1 _ b hlt]
    exact hbk
  have d0 : w2.cell? ⟨b, 0, none⟩ = some (.pointer (some ⟨b, 0, none⟩)) := by rw [Lib.cell_of_heap hb2]; rfl
  have d1 : w2.cell? ⟨b, 1, none⟩ = some (.slice av bs.length cv) := by rw [Lib.cell_of_heap hb2]; rfl
  have f1 : w2.frozen? ⟨b, 1, none⟩ = false := Lib.frozen_of_heap hb2 1
  have hel := Lib.encodeRuneZ_length r
  have hvs : ∃ a cap, v' = .slice a (bs.length + (Lib.encodeRuneZ r).length) cap := by
    rcases ho2.2 with ⟨hv, hz⟩ | ⟨g, cap, cur, hv, _⟩
    · omega
    · exact ⟨_, cap, hv⟩
  obtain ⟨av', cv', hv'⟩ := hvs
  subst hv'
  have HO : BldU b (bs ++ (Lib.encodeRuneZ r).map (Value.int .u8)) (w2.setCell ⟨b, 1, none⟩ (.slice av' (bs.length + (Lib.encodeRuneZ r).length) cv')) :=
    Lib.BuilderAt.put (T := 58) (e := 5) (Nat.le_refl _) hb2 (by simpa using ho2) (by decide)
  have HB : Below b w (w2.setCell ⟨b, 1, none⟩ (.slice av' (bs.length + (Lib.encodeRuneZ r).length) cv')) :=
    (((hb1.alloc (by omega) o).grown hg (by simp; omega) (fun k hk => (hown.lt k hk).1))).setCell (p := ⟨b, 1, none⟩) (Nat.le_refl _) _
  have HK : Lib.OthersKept 5 (some b) w (w2.setCell ⟨b, 1, none⟩ (.slice av' (bs.length + (Lib.encodeRuneZ r).length) cv')) :=
    ((hk1.alloc o).grown hg (Lib.ownsRowF_kind (World.ownsRowF_of (hown.alloc o)))).setCell ⟨b, 1, none⟩ rfl _
  generalize (Lib.encodeRuneZ r).length = q at *
  clear hap ho2 hg hown hne
  go_wp2
  go_ret2
  exact ⟨⟨_, rfl⟩, HO, HB, HK⟩

theorem wr_rune_k (b : Nat) (ns : List Int) (r : Int) (h0 : -2147483648 ≤ r) (h1 : r ≤ 2147483647) (w : World) (h : Wr b ns w) (hlen : ns.length + 4 ≤ 140737488355328) :
    Calls Tryz.prog 61 #[.pointer (some ⟨b, 0, none⟩), .int .i32 r] w fun e w' => (∃ n : Int, e = .returned (.tuple #[.int .i64 n, .nilIface])) ∧ Wr b (ns ++ Lib.encodeRuneZ r) w' ∧ Below b w w' ∧ Lib.OthersKept 5 (some b) w w' := by
  refine (writeRune_k b _ r h0 h1 w h.1 (by simpa using hlen)).mono ?_
  rintro e w' ⟨he, hU, hb, hk⟩
  have hl := Lib.encodeRuneZ_length r
  refine ⟨he, ⟨.inr (by simpa using hU), ?_, fun h2 => ?_⟩, hb, hk⟩
  · intro n hn
    rcases List.mem_append.1 hn with hn | hn
    · exact h.2.1 n hn
    · exact Lib.encodeRuneZ_byte r n hn
  · obtain ⟨_, h3⟩ := List.append_eq_nil_iff.1 h2
    rw [h3] at hl
    simp at hl

set_option maxHeartbeats 2000000 in
set_option maxRecDepth 100000 in
theorem wr_byte_k (b : Nat) (ns : List Int) (c : Int) (hc : 0 ≤ c ∧ c < 256) (w : World) (h : Wr b ns w) (hlen : ns.length + 1 ≤ 140737488355328) :
    Calls Tryz.prog 46 #[.pointer (some ⟨b, 0, none⟩), .int .u8 c] w fun e w' => e = .returned .nilIface ∧ Wr b (ns ++ [c]) w' ∧ Below b w w' ∧ Lib.OthersKept 5 (some b) w w' := by
  obtain ⟨i0, hi, hz0, hz1, hz2⟩ := info_parts Tryz.info5
  obtain ⟨hB, hby, _⟩ := h
  go_enter Tryz.func46, Tryz.ntmps46
  go_wp2_with (go_at_call 90; fail)
  refine (check_k b _ w hB).mono ?_
  rintro e w1 ⟨rfl, hU, hb1, hk1⟩
  obtain ⟨hBb, v, hbk, hown, hne⟩ := hU
  have hlt : b < w1.heap.size := (Array.getElem?_eq_some_iff.1 hbk).1
  have c0 : w1.cell? ⟨b, 0, none⟩ = some (.pointer (some ⟨b, 0, none⟩)) := by rw [Lib.cell_of_heap hbk]; rfl
  have c1 : w1.cell? ⟨b, 1, none⟩ = some v := by rw [Lib.cell_of_heap hbk]; rfl
  rw [List.length_map] at hown
  go_wp2_with (at_builtin; refine wpList_append_own _ rfl _ _ 22 rfl b 5 i0 (.int .u8 0) 1 1 Tryz.underlying22 hi hz0 hz1 hz2 rfl (by decide) _ _ _ rfl (hown.alloc _) ⟨w1.heap.size, 0, none⟩ 1 1 ([c].map (Value.int .u8)) rfl rfl (news_lit w1 _) (ints_oneCell .u8 _) ?c3 ?c4 ?c5 ?_)
  case c3 => unfold maxLen; omega
  case c4 => omega
  case c5 => simp; omega
  intro v' w2 ho2 hg _
  have hb2 : w2.heap[b]? = some (.cells #[.pointer (some ⟨b, 0, none⟩), v] 58 (0, 0)) := by
    rw [hg.block b (by simp; omega) (fun e => hne e.symm), Lib.alloc_old w1 _ b hlt]
    exact hbk
  have d0 : w2.cell? ⟨b, 0, none⟩ = some (.pointer (some ⟨b, 0, none⟩)) := by rw [Lib.cell_of_heap hb2]; rfl
  have d1 : w2.cell? ⟨b, 1, none⟩ = some v := by rw [Lib.cell_of_heap hb2]; rfl
  have f1 : w2.frozen? ⟨b, 1, none⟩ = false := Lib.frozen_of_heap hb2 1
  obtain ⟨g, cap, rfl⟩ : ∃ g cap, v' = .slice (some ⟨g, 0, none⟩) (ns.length + 1) cap := by
    rcases ho2.2 with ⟨_, h0⟩ | ⟨g, cap, cur, hv, _⟩
    · omega
    · exact ⟨g, cap, hv⟩
  go_wp2
  go_ret
  refine ⟨rfl, ⟨.inr ?_, ?_, fun h2 => by simp at h2⟩, ?_, ((hk1.alloc _).grown hg (Lib.ownsRowF_kind (World.ownsRowF_of (hown.alloc _)))).setCell ⟨b, 1, none⟩ rfl _⟩
  · have := Lib.BuilderAt.put (T := 58) (e := 5) (bs' := (ns ++ [c]).map (Value.int .u8)) (Nat.le_refl _) hb2 (by simpa using ho2) (by decide)
    exact this
  · intro n hn
    rcases List.mem_append.1 hn with hn | hn
    · exact hby n hn
    · simp at hn; subst hn; exact hc
  · exact ((hb1.alloc (by omega) _).grown hg (by simp; omega) (fun k hk => (hown.lt k hk).1)).setCell (p := ⟨b, 1, none⟩) (Nat.le_refl _) _
end Go.Proofs.YtbfgnfcecfjlnaaGreatDoor
namespace Go.Proofs.YtbfgnfcecfjlnaaGreatDoor
open Go.RowKit
set_option maxRecDepth 100000

theorem str_cells (s : List Int) (hs : ∀ n ∈ s, 0 ≤ n ∧ n < 256) : Lib.strCells (strOfNums s) = s.map (Value.int .u8) := by
  rw [Lib.strCells_eq]
  show ((s.map fun n => UInt8.ofNat n.toNat).toArray.toList).map _ = _
  simp only [List.map_map]
  apply List.map_congr_left
  intro n hn
  show Value.int IntKind.u8 ((UInt8.ofNat n.toNat).toNat : Int) = _
  rw [byte_back (hs n hn)]

set_option maxHeartbeats 2000000 in
set_option maxRecDepth 100000 in
theorem wr_str_k (b : Nat) (ns s : List Int) (hs : ∀ n ∈ s, 0 ≤ n ∧ n < 256) (h0 : s ≠ []) (w : World) (h : Wr b ns w) (hlen : ns.length + s.length ≤ 140737488355328) :
    Calls Tryz.prog 48 #[.pointer (some ⟨b, 0, none⟩), .string (strOfNums s)] w fun e w' => (∃ n : Int, e = .returned (.tuple #[.int .i64 n, .nilIface])) ∧ Wr b (ns ++ s) w' ∧ Below b w w' ∧ Lib.OthersKept 5 (some b) w w' := by
  obtain ⟨i0, hi, hz0, hz1, hz2⟩ := info_parts Tryz.info5
  obtain ⟨hB, hby, _⟩ := h
  have hss : (strOfNums s).size = s.length := strOf_size s
  have hs0 : 0 < s.length := List.length_pos_iff.2 h0
  go_enter Tryz.func48, Tryz.ntmps48
  go_wp2_with (go_at_call 90; fail)
  refine (check_k b _ w hB).mono ?_
  rintro e w1 ⟨rfl, hU, hb1, hk1⟩
  obtain ⟨hBb, v, hbk, hown, hne⟩ := hU
  have hlt : b < w1.heap.size := (Array.getElem?_eq_some_iff.1 hbk).1
  have c0 : w1.cell? ⟨b, 0, none⟩ = some (.pointer (some ⟨b, 0, none⟩)) := by rw [Lib.cell_of_heap hbk]; rfl
  have c1 : w1.cell? ⟨b, 1, none⟩ = some v := by rw [Lib.cell_of_heap hbk]; rfl
  rw [List.length_map] at hown
  go_wp2_with (at_builtin; refine Lib.wpList_append_own_string _ rfl _ _ 22 9 rfl b 5 i0 Tryz.underlying22 Tryz.underlying9 hi hz0 hz1 hz2 _ _ _ rfl hown (strOfNums s) rfl ?c3 ?c4 ?c5 ?_)
  case c3 => unfold maxLen; omega
  case c4 => omega
  case c5 => omega
  intro v' w2 ho2 hg _
  have hb2 : w2.heap[b]? = some (.cells #[.pointer (some ⟨b, 0, none⟩), v] 58 (0, 0)) := by
    rw [hg.block b hlt (fun e => hne e.symm)]
    exact hbk
  have d0 : w2.cell? ⟨b, 0, none⟩ = some (.pointer (some ⟨b, 0, none⟩)) := by rw [Lib.cell_of_heap hb2]; rfl
  have d1 : w2.cell? ⟨b, 1, none⟩ = some v := by rw [Lib.cell_of_heap hb2]; rfl
  have f1 : w2.frozen? ⟨b, 1, none⟩ = false := Lib.frozen_of_heap hb2 1
  rw [str_cells s hs] at ho2
  obtain ⟨g, cap, rfl⟩ : ∃ g cap, v' = .slice (some ⟨g, 0, none⟩) (ns.length + s.length) cap := by
    rcases ho2.2 with ⟨_, h0⟩ | ⟨g, cap, cur, hv, _⟩
    · omega
    · exact ⟨g, cap, hv⟩
  have HP : BldU b ((ns ++ s).map (Value.int .u8)) (w2.setCell ⟨b, 1, none⟩ (.slice (some ⟨g, 0, none⟩) (ns.length + s.length) cap)) :=
    Lib.BuilderAt.put (T := 58) (e := 5) (bs' := (ns ++ s).map (Value.int .u8)) (Nat.le_refl _) hb2 (by simpa using ho2) (by decide)
  have HB : Below b w (w2.setCell ⟨b, 1, none⟩ (.slice (some ⟨g, 0, none⟩) (ns.length + s.length) cap)) := (hb1.grown hg (by omega) (fun k hk => (hown.lt k hk).1)).setCell (p := ⟨b, 1, none⟩) (Nat.le_refl _) _
  have HK : Lib.OthersKept 5 (some b) w (w2.setCell ⟨b, 1, none⟩ (.slice (some ⟨g, 0, none⟩) (ns.length + s.length) cap)) := (hk1.grown hg (Lib.ownsRowF_kind (World.ownsRowF_of hown))).setCell ⟨b, 1, none⟩ rfl _
  clear ho2 hg hown hne hss
  generalize strOfNums s = S at *
  go_wp2
  go_ret2
  refine ⟨⟨_, rfl⟩, ⟨.inr HP, ?_, fun h2 => ?_⟩, HB, HK⟩
  · intro n hn
    rcases List.mem_append.1 hn with hn | hn
    · exact hby n hn
    · exact hs n hn
  · obtain ⟨_, h3⟩ := List.append_eq_nil_iff.1 h2
    exact absurd h3 h0

theorem wr_below {w w' : World} {b : Nat} {ns : List Int} (h : Wr b ns w) (hb : Below w.heap.size w w') (h0 : 0 < b) : Wr b ns w' := wr_kept h (Kept.of_below (b := 0) hb) h0
theorem kept_below {w w' : World} {b : Nat} (hb : Below w.heap.size w w') : Lib.OthersKept 5 (some b) w w' := fun k _ hk _ _ => (hb.block k ((Array.getElem?_eq_some_iff.1 hk).1)).trans hk
theorem tab_below {w w' : World} {b : Nat} (h : Tab w) (hb : Below b w w') (h3 : 3 < b) : Tab w' := (hb.cell (p := ⟨3, 15, none⟩) h3).trans h
theorem wr_lt {w : World} {b : Nat} {ns : List Int} (h : Wr b ns w) : b < w.heap.size := by
  rcases h.1 with h | h
  · exact h.lt
  · exact h.lt
theorem hexL_byte (n : Nat) (hn : n < 256) : ∀ x ∈ hexL n, 0 ≤ x ∧ x < 256 := by
  unfold hexL
  split
  · rename_i h
    intro x hx
    simp at hx
    rw [hx]
    exact digZ_byte n h
  · intro x hx
    simp at hx
    rcases hx with rfl | rfl
    · exact digZ_byte _ (by omega)
    · exact digZ_byte _ (by omega)
theorem hexL_len (n : Nat) : hexL n ≠ [] ∧ (hexL n).length ≤ 2 := by
  unfold hexL
  split <;> simp

theorem wrap_small (n : Nat) (hn : n < 128) : IntKind.i64.wrap (n : Int) = n := by
  have key : ∀ m : Fin 128, IntKind.i64.wrap (m.val : Int) = (m.val : Int) := by decide +kernel
  exact key ⟨n, hn⟩

/-- A character by its number. -/
def numL (c : Int) : List Int := [92] ++ hexL c.toNat ++ [32]

set_option maxHeartbeats 2000000 in
set_option maxRecDepth 100000 in
theorem number_k (b : Nat) (ns : List Int) (c : Int) (hc0 : 0 ≤ c) (hc : c < 128) (w : World) (h : Wr b ns w) (ht : Tab w) (h3 : 3 < b) (hlen : ns.length ≤ 100000000000) :
    Calls Tryz.prog 86 #[.pointer (some ⟨b, 0, none⟩), .int .i32 c] w fun e w' => e = .returned (.tuple #[]) ∧ Wr b (ns ++ numL c) w' ∧ Below b w w' ∧ Lib.OthersKept 5 (some b) w w' := by
  have mixed : Tryz.prog.follows Departure.mixedOrders = true := by kernel_rfl
  obtain ⟨n, rfl⟩ : ∃ n : Nat, c = n := ⟨c.toNat, by omega⟩
  have hn : n < 128 := by omega
  have hlt := wr_lt h
  obtain ⟨hx0, hxl⟩ := hexL_len n
  have hxb := hexL_byte n (by omega)
  go_enter Tryz.func86, Tryz.ntmps86
  go_wp2_with (go_at_call 46; fail)
  refine (wr_byte_k b ns 92 (by omega) w h (by omega)).mono ?_
  rintro e w1 ⟨rfl, h1, b1, k1⟩
  have t1 := tab_below ht b1 h3
  have hf : ∀ m, Calls Tryz.prog 112 #[.int .i64 n, .int .i64 16] (w1.drewN m) fun e w' => e = .returned (.string (strOfNums (hexL n))) ∧ Below w1.heap.size w1 w' := by
    intro m
    have hm : Below w1.heap.size w1 (w1.drewN m) := (Kept.drewN w1.heap.size w1 m).below (Nat.le_refl _)
    refine (fmt_any n hn (w1.drewN m) t1 (by have := wr_lt h1; show 3 < w1.heap.size; omega)).mono ?_
    rintro e w' ⟨rfl, hb⟩
    exact ⟨rfl, hm.trans hb⟩
  have hfd : Calls Tryz.prog 112 #[.int .i64 n, .int .i64 16] w1.drew fun e w' => e = .returned (.string (strOfNums (hexL n))) ∧ Below w1.heap.size w1 w' := hf 1
  have hstr : ∀ w2, Below w1.heap.size w1 w2 → Calls Tryz.prog 48 #[.pointer (some ⟨b, 0, none⟩), .string (strOfNums (hexL n))] w2 fun e w' => (∃ n : Int, e = .returned (.tuple #[.int .i64 n, .nilIface])) ∧ Wr b (ns ++ [92] ++ hexL n) w' ∧ Below b w2 w' ∧ Lib.OthersKept 5 (some b) w2 w' :=
    fun w2 hb2 => wr_str_k b (ns ++ [92]) (hexL n) hxb hx0 w2 (wr_below h1 hb2 (by omega)) (by simp; omega)
  have hend : ∀ w3, Wr b (ns ++ [92] ++ hexL n) w3 → Calls Tryz.prog 46 #[.pointer (some ⟨b, 0, none⟩), .int .u8 32] w3 fun e w' => e = .returned .nilIface ∧ Wr b (ns ++ [92] ++ hexL n ++ [32]) w' ∧ Below b w3 w' ∧ Lib.OthersKept 5 (some b) w3 w' :=
    fun w3 h3w => wr_byte_k b _ 32 (by omega) w3 h3w (by simp; omega)
  have hlt1 : b ≤ w1.heap.size := Nat.le_of_lt (wr_lt h1)
  have HL : Hid (ns ++ numL n = ns ++ [92] ++ hexL n ++ [32]) := by
    show ns ++ numL n = _
    unfold numL
    simp
  have hwr : IntKind.i64.wrap (n : Int) = n := wrap_small n hn
  clear hf hxb hx0 hxl h1 t1 h ht
  generalize strOfNums (hexL n) = S at *
  generalize ns ++ [92] ++ hexL n = N at *
  go_wp2
  go_region_with (first | (go_at_call 112; refine hfd.mono ?_; rintro e w2 ⟨rfl, b2⟩) | (go_at_call 48; refine (hstr w2 b2).mono ?_; rintro e w3 ⟨⟨rn, rfl⟩, h3w, b3, k3⟩))
  all_goals
    go_wp2_with (go_at_call 46; fail)
    refine (hend w3 h3w).mono ?_
    rintro e w4 ⟨rfl, h4, b4, k4⟩
    go_wp2
    go_end0
    exact ⟨rfl, by rw [HL.out]; exact h4, (b1.trans (b2.mono hlt1)).trans (b3.trans b4), k1.trans ((kept_below b2).trans (k3.trans k4))⟩
end Go.Proofs.YtbfgnfcecfjlnaaGreatDoor
