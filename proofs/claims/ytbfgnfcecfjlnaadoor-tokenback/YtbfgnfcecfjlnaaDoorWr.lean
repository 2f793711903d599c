/- What a writer's builder holds behind each of its calls, with all that stands beside it. -/
import Derived.Test.YtbfgnfcecfjlnaaDoorFmt
import Derived.Lib.OthersKept
namespace Go.Proofs.YtbfgnfcecfjlnaaDoor
open Go.RowKit

/-- All blocks but one, and but a row of bytes, stand as they stood. -/
theorem check_k (b : Nat) (bs : List Value) (w : World) (h : Bld b bs w) :
    Calls Tryd.prog 47 #[.pointer (some ⟨b, 0, none⟩)] w fun e w' => e = .returned (.tuple #[]) ∧ BldU b bs w' ∧ Below b w w' ∧ Lib.OthersKept 5 (some b) w w' := by
  rcases h with h | h
  · refine (check_fresh b w h.cell0 h.shape h.frozen0).mono ?_
    rintro e w' ⟨rfl, rfl⟩
    exact ⟨rfl, h.used _, (Below.refl b w).setCell (p := ⟨b, 0, none⟩) (Nat.le_refl _) _, (Lib.OthersKept.refl _ _ w).setCell ⟨b, 0, none⟩ rfl _⟩
  · refine (check_used b w h.cell0).mono ?_
    rintro e w' ⟨rfl, rfl⟩
    exact ⟨rfl, h, Below.refl b w, Lib.OthersKept.refl _ _ w⟩

set_option maxHeartbeats 2000000 in
set_option maxRecDepth 100000 in
theorem writeRune_k (b : Nat) (bs : List Value) (r : Int) (h0 : -2147483648 ≤ r) (h1 : r ≤ 2147483647) (w : World) (h : Bld b bs w) (hlen : bs.length + 4 ≤ 140737488355328) :
    Calls Tryd.prog 44 #[.pointer (some ⟨b, 0, none⟩), .int .i32 r] w fun e w' => (∃ n : Int, e = .returned (.tuple #[.int .i64 n, .nilIface])) ∧ BldU b (bs ++ (Lib.encodeRuneZ r).map (Value.int .u8)) w' ∧ Below b w w' ∧ Lib.OthersKept 5 (some b) w w' := by
  go_enter Tryd.func44, Tryd.ntmps44
  go_wp2_with (go_at_call 47; fail)
  refine (check_k b bs w h).mono ?_
  rintro e w1 ⟨rfl, hU, hb1, hk1⟩
  obtain ⟨hBb, v, hbk, hown, hne⟩ := hU
  have hlt : b < w1.heap.size := (Array.getElem?_eq_some_iff.1 hbk).1
  have c0 : w1.cell? ⟨b, 0, none⟩ = some (.pointer (some ⟨b, 0, none⟩)) := by rw [Lib.cell_of_heap hbk]; rfl
  have c1 : w1.cell? ⟨b, 1, none⟩ = some v := by rw [Lib.cell_of_heap hbk]; rfl
  have hap := append_own b v bs.length bs r h0 h1 w1 hown hlen (by omega)
  have hvs : ∃ a cap, v = .slice a bs.length cap := by
    rcases hown.2 with ⟨hv, hz⟩ | ⟨g, cap, cur, hv, _⟩
    · exact ⟨none, 0, by rw [hv, hz]⟩
    · exact ⟨_, cap, hv⟩
  obtain ⟨av, cv, hv⟩ := hvs
  subst hv
  have hbl : bs.length ≤ 140737488355328 := by omega
  go_wp2_with (go_at_call 66; fail)
  refine hap.mono ?_
  rintro e w2 ⟨v', rfl, ho2, o, hg⟩
  have hb2 : w2.heap[b]? = some (.cells #[.pointer (some ⟨b, 0, none⟩), .slice av bs.length cv] 44 (0, 0)) := by
    rw [hg.block b (by simp; omega) (fun e => hne e.symm), Lib.alloc_old w1 _ b hlt]
    exact hbk
  have d0 : w2.cell? ⟨b, 0, none⟩ = some (.pointer (some ⟨b, 0, none⟩)) := by rw [Lib.cell_of_heap hb2]; rfl
  have d1 : w2.cell? ⟨b, 1, none⟩ = some (.slice av bs.length cv) := by rw [Lib.cell_of_heap hb2]; rfl
  have f1 : w2.frozen? ⟨b, 1, none⟩ = false := Lib.frozen_of_heap hb2 1
  have hel := Lib.encodeRuneZ_length r
  have hvs : ∃ a cap, v' = .slice a (bs.length + (Lib.encodeRuneZ r).length) cap := by
    rcases ho2.2 with ⟨hv, hz⟩ | ⟨g, cap, cur, hv, _⟩
    · omega
    · exact ⟨_, cap, hv⟩
  obtain ⟨av', cv', hv'⟩ := hvs
  subst hv'
  have HO : BldU b (bs ++ (Lib.encodeRuneZ r).map (Value.int .u8)) (w2.setCell ⟨b, 1, none⟩ (.slice av' (bs.length + (Lib.encodeRuneZ r).length) cv')) :=
    Lib.BuilderAt.put (T := 44) (e := 5) (Nat.le_refl _) hb2 (by simpa using ho2) (by decide)
  have HB : Below b w (w2.setCell ⟨b, 1, none⟩ (.slice av' (bs.length + (Lib.encodeRuneZ r).length) cv')) :=
    (((hb1.alloc (by omega) o).grown hg (by simp; omega) (fun k hk => (hown.lt k hk).1))).setCell (p := ⟨b, 1, none⟩) (Nat.le_refl _) _
  have HK : Lib.OthersKept 5 (some b) w (w2.setCell ⟨b, 1, none⟩ (.slice av' (bs.length + (Lib.encodeRuneZ r).length) cv')) :=
    ((hk1.alloc o).grown hg (Lib.ownsRowF_kind (World.ownsRowF_of (hown.alloc o)))).setCell ⟨b, 1, none⟩ rfl _
  generalize (Lib.encodeRuneZ r).length = q at *
  clear hap ho2 hg hown hne
  go_wp2
  go_ret2
  exact ⟨⟨_, rfl⟩, HO, HB, HK⟩

theorem wr_rune_k (b : Nat) (ns : List Int) (r : Int) (h0 : -2147483648 ≤ r) (h1 : r ≤ 2147483647) (w : World) (h : Wr b ns w) (hlen : ns.length + 4 ≤ 140737488355328) :
    Calls Tryd.prog 44 #[.pointer (some ⟨b, 0, none⟩), .int .i32 r] w fun e w' => (∃ n : Int, e = .returned (.tuple #[.int .i64 n, .nilIface])) ∧ Wr b (ns ++ Lib.encodeRuneZ r) w' ∧ Below b w w' ∧ Lib.OthersKept 5 (some b) w w' := by
  refine (writeRune_k b _ r h0 h1 w h.1 (by simpa using hlen)).mono ?_
  rintro e w' ⟨he, hU, hb, hk⟩
  have hl := Lib.encodeRuneZ_length r
  refine ⟨he, ⟨.inr (by simpa using hU), ?_, fun h2 => ?_⟩, hb, hk⟩
  · intro n hn
    rcases List.mem_append.1 hn with hn | hn
    · exact h.2.1 n hn
    · exact Lib.encodeRuneZ_byte r n hn
  · obtain ⟨_, h3⟩ := List.append_eq_nil_iff.1 h2
    rw [h3] at hl
    simp at hl

set_option maxHeartbeats 2000000 in
set_option maxRecDepth 100000 in
theorem wr_byte_k (b : Nat) (ns : List Int) (c : Int) (hc : 0 ≤ c ∧ c < 256) (w : World) (h : Wr b ns w) (hlen : ns.length + 1 ≤ 140737488355328) :
    Calls Tryd.prog 22 #[.pointer (some ⟨b, 0, none⟩), .int .u8 c] w fun e w' => e = .returned .nilIface ∧ Wr b (ns ++ [c]) w' ∧ Below b w w' ∧ Lib.OthersKept 5 (some b) w w' := by
  obtain ⟨i0, hi, hz0, hz1, hz2⟩ := info_parts Tryd.info5
  obtain ⟨hB, hby, _⟩ := h
  go_enter Tryd.func22, Tryd.ntmps22
  go_wp2_with (go_at_call 47; fail)
  refine (check_k b _ w hB).mono ?_
  rintro e w1 ⟨rfl, hU, hb1, hk1⟩
  obtain ⟨hBb, v, hbk, hown, hne⟩ := hU
  have hlt : b < w1.heap.size := (Array.getElem?_eq_some_iff.1 hbk).1
  have c0 : w1.cell? ⟨b, 0, none⟩ = some (.pointer (some ⟨b, 0, none⟩)) := by rw [Lib.cell_of_heap hbk]; rfl
  have c1 : w1.cell? ⟨b, 1, none⟩ = some v := by rw [Lib.cell_of_heap hbk]; rfl
  rw [List.length_map] at hown
  go_wp2_with (at_builtin; refine wpList_append_own _ rfl _ _ 39 rfl b 5 i0 (.int .u8 0) 1 1 Tryd.underlying39 hi hz0 hz1 hz2 rfl (by decide) _ _ _ rfl (hown.alloc _) ⟨w1.heap.size, 0, none⟩ 1 1 ([c].map (Value.int .u8)) rfl rfl (news_lit w1 _) (ints_oneCell .u8 _) ?c3 ?c4 ?c5 ?_)
  case c3 => unfold maxLen; omega
  case c4 => omega
  case c5 => simp; omega
  intro v' w2 ho2 hg _
  have hb2 : w2.heap[b]? = some (.cells #[.pointer (some ⟨b, 0, none⟩), v] 44 (0, 0)) := by
    rw [hg.block b (by simp; omega) (fun e => hne e.symm), Lib.alloc_old w1 _ b hlt]
    exact hbk
  have d0 : w2.cell? ⟨b, 0, none⟩ = some (.pointer (some ⟨b, 0, none⟩)) := by rw [Lib.cell_of_heap hb2]; rfl
  have d1 : w2.cell? ⟨b, 1, none⟩ = some v := by rw [Lib.cell_of_heap hb2]; rfl
  have f1 : w2.frozen? ⟨b, 1, none⟩ = false := Lib.frozen_of_heap hb2 1
  obtain ⟨g, cap, rfl⟩ : ∃ g cap, v' = .slice (some ⟨g, 0, none⟩) (ns.length + 1) cap := by
    rcases ho2.2 with ⟨_, h0⟩ | ⟨g, cap, cur, hv, _⟩
    · omega
    · exact ⟨g, cap, hv⟩
  go_wp2
  go_ret
  refine ⟨rfl, ⟨.inr ?_, ?_, fun h2 => by simp at h2⟩, ?_, ((hk1.alloc _).grown hg (Lib.ownsRowF_kind (World.ownsRowF_of (hown.alloc _)))).setCell ⟨b, 1, none⟩ rfl _⟩
  · have := Lib.BuilderAt.put (T := 44) (e := 5) (bs' := (ns ++ [c]).map (Value.int .u8)) (Nat.le_refl _) hb2 (by simpa using ho2) (by decide)
    exact this
  · intro n hn
    rcases List.mem_append.1 hn with hn | hn
    · exact hby n hn
    · simp at hn; subst hn; exact hc
  · exact ((hb1.alloc (by omega) _).grown hg (by simp; omega) (fun k hk => (hown.lt k hk).1)).setCell (p := ⟨b, 1, none⟩) (Nat.le_refl _) _
end Go.Proofs.YtbfgnfcecfjlnaaDoor
