/- WriteString of an empty text leaves a new writer empty; Source where a text is empty. Source of any token. -/
import Derived.Test.YtbfgnfcecfjlnaaGreatDoorWRefSource
namespace Go.Proofs.YtbfgnfcecfjlnaaGreatDoor
open Go.RowKit

theorem append_nothing (w : World) (ty : TypeId) : (Builtin.append_ #[22, 9] ty #[.slice none 0 0, .string ⟨#[]⟩]).run Tryz.prog w = .ok (.slice none 0 0) w := by
  obtain ⟨i0, hi, hz0, hz1, hz2⟩ := info_parts Tryz.info5
  have h0 : (⟨#[]⟩ : ByteArray).size = 0 := rfl
  have hf := Lib.run_firstCells_string (P := Tryz.prog) w 1 ⟨#[]⟩
  rw [h0] at hf
  simp [hf, Builtin.append_, run_underlying Tryz.underlying22, run_underlying Tryz.underlying9, sizeOf, typeInfo, hi, hz1, Builtin.lenOf, h0]

theorem set2k {w : World} {b : Nat} {x0 x1 u : Value} {T : TypeId} (h : w.heap[b]? = some (.cells #[x0, x1] T (0, 0))) : (w.setCell ⟨b, 0, none⟩ u).heap[b]? = some (.cells #[u, x1] T (0, 0)) := by
  simp [World.setCell, Array.getElem?_modify, h]
theorem set2k1 {w : World} {b : Nat} {x0 x1 u : Value} {T : TypeId} (h : w.heap[b]? = some (.cells #[x0, x1] T (0, 0))) : (w.setCell ⟨b, 1, none⟩ u).heap[b]? = some (.cells #[x0, u] T (0, 0)) := by
  simp [World.setCell, Array.getElem?_modify, h]

set_option maxHeartbeats 2000000 in
set_option maxRecDepth 100000 in
theorem wr_str_new (b : Nat) (w : World) (h : w.heap[b]? = some (.cells #[.pointer none, .slice none 0 0] 58 (0, 0))) :
    Calls Tryz.prog 48 #[.pointer (some ⟨b, 0, none⟩), .string ⟨#[]⟩] w fun e w' => (∃ n : Int, e = .returned (.tuple #[.int .i64 n, .nilIface])) ∧ Wr b [] w' ∧ Below b w w' := by
  have hlt : b < w.heap.size := (Array.getElem?_eq_some_iff.1 h).1
  have c0 : w.cell? ⟨b, 0, none⟩ = some (.pointer none) := by rw [Lib.cell_of_heap h]; rfl
  have hap := fun w ty => append_nothing w ty
  go_enter Tryz.func48, Tryz.ntmps48
  go_wp2_with (go_at_call 90; fail)
  refine (check_fresh b w c0 (by simp [World.shape?, h]) (Lib.frozen_of_heap h 0)).mono ?_
  rintro e w1 ⟨rfl, hw1⟩
  have hb1 : w1.heap[b]? = some (.cells #[.pointer (some ⟨b, 0, none⟩), .slice none 0 0] 58 (0, 0)) := by
    rw [← hw1]
    have := set2k h (u := .pointer (some ⟨b, 0, none⟩))
    exact this
  have hB1 : Below b w w1 := by
    rw [← hw1]
    exact (Below.refl b w).setCell (p := ⟨b, 0, none⟩) (Nat.le_refl _) _
  clear hw1 c0
  have d0 : w1.cell? ⟨b, 0, none⟩ = some (.pointer (some ⟨b, 0, none⟩)) := by rw [Lib.cell_of_heap hb1]; rfl
  have d1 : w1.cell? ⟨b, 1, none⟩ = some (.slice none 0 0) := by rw [Lib.cell_of_heap hb1]; rfl
  have f1 : w1.frozen? ⟨b, 1, none⟩ = false := Lib.frozen_of_heap hb1 1
  have hs1 : (w1.setCell ⟨b, 1, none⟩ (.slice none 0 0)).heap[b]? = some (.cells #[.pointer (some ⟨b, 0, none⟩), .slice none 0 0] 58 (0, 0)) := set2k1 hb1
  have hB2 : Below b w (w1.setCell ⟨b, 1, none⟩ (.slice none 0 0)) := hB1.setCell (p := ⟨b, 1, none⟩) (Nat.le_refl _) _
  go_wp2
  go_ret2
  refine ⟨⟨_, rfl⟩, ⟨.inr ⟨Nat.le_refl _, _, hs1, ?_, by simp [Value.ownBlock]⟩, by simp, fun _ => ⟨_, hs1⟩⟩, hB2⟩
  exact ⟨by simp, .inl ⟨rfl, by simp⟩⟩

end Go.Proofs.YtbfgnfcecfjlnaaGreatDoor
namespace Go.Proofs.YtbfgnfcecfjlnaaGreatDoor
open Go.RowKit

def bytesL (a : ByteArray) : List Int := a.data.toList.map fun x => (x.toNat : Int)
theorem bytesL_size (a : ByteArray) : (bytesL a).length = a.size := by
  unfold bytesL
  rw [List.length_map]
  rfl
theorem bytesL_byte (a : ByteArray) : ∀ n ∈ bytesL a, 0 ≤ n ∧ n < 256 := by
  intro n hn
  unfold bytesL at hn
  obtain ⟨x, _, rfl⟩ := List.mem_map.1 hn
  have := x.toNat_lt
  omega
theorem bytesL_str (a : ByteArray) : strOfNums (bytesL a) = a := strOf a
theorem empty_of {s : ByteArray} (h : s.size = 0) : s = ⟨#[]⟩ := by
  cases s with
  | mk d =>
    have h1 : d.size = 0 := h
    have h2 : d = #[] := by simpa using h1
    subst h2
    rfl
/-- WriteString of any text to a new writer. -/
theorem wr_first (b : Nat) (tx : ByteArray) (hs : tx.size ≤ 100000) (w : World) (h : w.heap[b]? = some (.cells #[.pointer none, .slice none 0 0] 58 (0, 0))) (hw : Wr b [] w) :
    Calls Tryz.prog 48 #[.pointer (some ⟨b, 0, none⟩), .string tx] w fun e w' => (∃ n : Int, e = .returned (.tuple #[.int .i64 n, .nilIface])) ∧ Wr b (bytesL tx) w' ∧ Below b w w' := by
  by_cases h0 : tx.size = 0
  · have e := empty_of h0
    subst e
    exact wr_str_new b w h
  · have hne : bytesL tx ≠ [] := by
      intro e
      have := bytesL_size tx
      rw [e] at this
      simp at this
      omega
    have hk := wr_str_k b [] (bytesL tx) (bytesL_byte tx) hne w hw (by rw [bytesL_size]; simp; omega)
    rw [bytesL_str, List.nil_append] at hk
    refine hk.mono ?_
    rintro e w' ⟨h1, h2, h3, _⟩
    exact ⟨h1, h2, h3⟩
set_option maxHeartbeats 1000000 in
set_option maxRecDepth 100000 in
theorem unit_all (b : Nat) (ns : List Int) (s : ByteArray) (hs : s.size ≤ 1000000000) (w : World) (h : Wr b ns w) (ht : Tab w) (h3 : 3 < b) (hlen : ns.length ≤ 1000000000) :
    Calls Tryz.prog 49 #[.pointer (some ⟨b, 0, none⟩), .string s] w fun e w' => e = .returned (.tuple #[]) ∧ Wr b (ns ++ unitL s) w' ∧ Below b w w' := by
  by_cases h0 : 0 < s.size
  · refine (unit_k b ns s hs h0 w h ht h3 hlen).mono ?_
    rintro e w' ⟨h1, h2, h3, _⟩
    exact ⟨h1, h2, h3⟩
  · have e := empty_of (show s.size = 0 by omega)
    subst e
    have hn := name_all b ns ⟨#[]⟩ (by decide) w h ht h3 (by omega)
    have e2 : unitL ⟨#[]⟩ = escL ⟨#[]⟩ := rfl
    rw [e2]
    generalize ns ++ escL ⟨#[]⟩ = N at *
    go_enter Tryz.func49, Tryz.ntmps49
    go_wp2_with (go_at_call 40; fail)
    refine (hn).mono ?_
    rintro e w1 ⟨rfl, h1, b1, k1⟩
    go_wp2
    refine bodyPost_ret (results_none rfl _ _ _) rfl ?_
    exact ⟨rfl, h1, b1⟩

section
variable (tx un : ByteArray) (wh fl : Bool) (w : World)

set_option maxHeartbeats 1000000 in
set_option maxRecDepth 100000 in
theorem sourceT_9 (hs : tx.size ≤ 100000) (ht : Tab w) (h3 : 3 < w.heap.size) :
    Calls Tryz.prog 17 #[.agg #[.int .i64 9, .string tx, .string un, .bool wh, .bool fl]] w fun e w' => e = .returned (.string (strOfNums (bytesL tx))) ∧ Below w.heap.size w w' := by
  have hB1 : Below w.heap.size w ((w.alloc (.cells #[.int .i64 9, .string tx, .string un, .bool wh, .bool fl] 31)).alloc (.cells #[.pointer none, .slice none 0 0] 58)) := ((Below.refl _ w).alloc (Nat.le_refl _) _).alloc (by simp) _
  have hw := wr_new (w.alloc (.cells #[.int .i64 9, .string tx, .string un, .bool wh, .bool fl] 31))
  have hn0 := heap_alloc_new (w.alloc (.cells #[.int .i64 9, .string tx, .string un, .bool wh, .bool fl] 31)) (.cells #[.pointer none, .slice none 0 0] 58)
  have e9 : (w.alloc (.cells #[.int .i64 9, .string tx, .string un, .bool wh, .bool fl] 31)).heap.size = w.heap.size + 1 := by simp
  rw [e9] at hw hn0
  have ht0 : Tab ((w.alloc (.cells #[.int .i64 9, .string tx, .string un, .bool wh, .bool fl] 31)).alloc (.cells #[.pointer none, .slice none 0 0] 58)) := tab_below ht hB1 h3
  have hbl := bytesL_size tx
  have hstr := wr_first (w.heap.size + 1) tx hs _ hn0 hw
  have hc2 : ((w.alloc (.cells #[.int .i64 9, .string tx, .string un, .bool wh, .bool fl] 31)).alloc (.cells #[.pointer none, .slice none 0 0] 58)).heap[w.heap.size]? = some (.cells #[.int .i64 9, .string tx, .string un, .bool wh, .bool fl] 31 (0, 0)) := (Below.heap_alloc (w.alloc (.cells #[.int .i64 9, .string tx, .string un, .bool wh, .bool fl] 31)) (.cells #[.pointer none, .slice none 0 0] 58) w.heap.size (by simp)).trans (heap_alloc_new w (.cells #[.int .i64 9, .string tx, .string un, .bool wh, .bool fl] 31))
  clear e9 hw hn0
  go_enter Tryz.func17, Tryz.ntmps17
  go_wp2_with (go_at_call 48; fail)
  refine (hstr).mono ?_
  rintro e w1 ⟨⟨rn, rfl⟩, h1, b1⟩
  go_wp2_with (go_at_call 41; fail)
  refine (wr_string (w.heap.size + 1) (bytesL tx) w1 h1).mono ?_
  rintro e w9 ⟨rfl, b9⟩
  go_wp2
  go_ret
  exact ⟨rfl, hB1.trans ((b1.trans b9).mono (by omega))⟩

set_option maxHeartbeats 1000000 in
set_option maxRecDepth 100000 in
theorem sourceT_10 (hs : tx.size ≤ 100000) (ht : Tab w) (h3 : 3 < w.heap.size) :
    Calls Tryz.prog 17 #[.agg #[.int .i64 10, .string tx, .string un, .bool wh, .bool fl]] w fun e w' => e = .returned (.string (strOfNums (bytesL tx))) ∧ Below w.heap.size w w' := by
  have hB1 : Below w.heap.size w ((w.alloc (.cells #[.int .i64 10, .string tx, .string un, .bool wh, .bool fl] 31)).alloc (.cells #[.pointer none, .slice none 0 0] 58)) := ((Below.refl _ w).alloc (Nat.le_refl _) _).alloc (by simp) _
  have hw := wr_new (w.alloc (.cells #[.int .i64 10, .string tx, .string un, .bool wh, .bool fl] 31))
  have hn0 := heap_alloc_new (w.alloc (.cells #[.int .i64 10, .string tx, .string un, .bool wh, .bool fl] 31)) (.cells #[.pointer none, .slice none 0 0] 58)
  have e9 : (w.alloc (.cells #[.int .i64 10, .string tx, .string un, .bool wh, .bool fl] 31)).heap.size = w.heap.size + 1 := by simp
  rw [e9] at hw hn0
  have ht0 : Tab ((w.alloc (.cells #[.int .i64 10, .string tx, .string un, .bool wh, .bool fl] 31)).alloc (.cells #[.pointer none, .slice none 0 0] 58)) := tab_below ht hB1 h3
  have hbl := bytesL_size tx
  have hstr := wr_first (w.heap.size + 1) tx hs _ hn0 hw
  have hc2 : ((w.alloc (.cells #[.int .i64 10, .string tx, .string un, .bool wh, .bool fl] 31)).alloc (.cells #[.pointer none, .slice none 0 0] 58)).heap[w.heap.size]? = some (.cells #[.int .i64 10, .string tx, .string un, .bool wh, .bool fl] 31 (0, 0)) := (Below.heap_alloc (w.alloc (.cells #[.int .i64 10, .string tx, .string un, .bool wh, .bool fl] 31)) (.cells #[.pointer none, .slice none 0 0] 58) w.heap.size (by simp)).trans (heap_alloc_new w (.cells #[.int .i64 10, .string tx, .string un, .bool wh, .bool fl] 31))
  clear e9 hw hn0
  go_enter Tryz.func17, Tryz.ntmps17
  go_wp2_with (go_at_call 48; fail)
  refine (hstr).mono ?_
  rintro e w1 ⟨⟨rn, rfl⟩, h1, b1⟩
  go_wp2_with (go_at_call 41; fail)
  refine (wr_string (w.heap.size + 1) (bytesL tx) w1 h1).mono ?_
  rintro e w9 ⟨rfl, b9⟩
  go_wp2
  go_ret
  exact ⟨rfl, hB1.trans ((b1.trans b9).mono (by omega))⟩

set_option maxHeartbeats 1000000 in
set_option maxRecDepth 100000 in
theorem sourceT_11 (hs : tx.size ≤ 100000) (ht : Tab w) (h3 : 3 < w.heap.size) :
    Calls Tryz.prog 17 #[.agg #[.int .i64 11, .string tx, .string un, .bool wh, .bool fl]] w fun e w' => e = .returned (.string (strOfNums (bytesL tx ++ [37]))) ∧ Below w.heap.size w w' := by
  have hB1 : Below w.heap.size w ((w.alloc (.cells #[.int .i64 11, .string tx, .string un, .bool wh, .bool fl] 31)).alloc (.cells #[.pointer none, .slice none 0 0] 58)) := ((Below.refl _ w).alloc (Nat.le_refl _) _).alloc (by simp) _
  have hw := wr_new (w.alloc (.cells #[.int .i64 11, .string tx, .string un, .bool wh, .bool fl] 31))
  have hn0 := heap_alloc_new (w.alloc (.cells #[.int .i64 11, .string tx, .string un, .bool wh, .bool fl] 31)) (.cells #[.pointer none, .slice none 0 0] 58)
  have e9 : (w.alloc (.cells #[.int .i64 11, .string tx, .string un, .bool wh, .bool fl] 31)).heap.size = w.heap.size + 1 := by simp
  rw [e9] at hw hn0
  have ht0 : Tab ((w.alloc (.cells #[.int .i64 11, .string tx, .string un, .bool wh, .bool fl] 31)).alloc (.cells #[.pointer none, .slice none 0 0] 58)) := tab_below ht hB1 h3
  have hbl := bytesL_size tx
  have hstr := wr_first (w.heap.size + 1) tx hs _ hn0 hw
  have hc2 : ((w.alloc (.cells #[.int .i64 11, .string tx, .string un, .bool wh, .bool fl] 31)).alloc (.cells #[.pointer none, .slice none 0 0] 58)).heap[w.heap.size]? = some (.cells #[.int .i64 11, .string tx, .string un, .bool wh, .bool fl] 31 (0, 0)) := (Below.heap_alloc (w.alloc (.cells #[.int .i64 11, .string tx, .string un, .bool wh, .bool fl] 31)) (.cells #[.pointer none, .slice none 0 0] 58) w.heap.size (by simp)).trans (heap_alloc_new w (.cells #[.int .i64 11, .string tx, .string un, .bool wh, .bool fl] 31))
  clear e9 hw hn0
  go_enter Tryz.func17, Tryz.ntmps17
  go_wp2_with (go_at_call 48; fail)
  refine (hstr).mono ?_
  rintro e w1 ⟨⟨rn, rfl⟩, h1, b1⟩
  have hby := wr_byte_k (w.heap.size + 1) (bytesL tx) 37 (by omega) w1 h1 (by omega)
  go_wp2_with (go_at_call 46; fail)
  refine (hby).mono ?_
  rintro e w2 ⟨rfl, h2, b2, k2⟩
  go_wp2_with (go_at_call 41; fail)
  refine (wr_string (w.heap.size + 1) (bytesL tx ++ [37]) w2 h2).mono ?_
  rintro e w9 ⟨rfl, b9⟩
  go_wp2
  go_ret
  exact ⟨rfl, hB1.trans (((b1.trans b2).trans b9).mono (by omega))⟩

set_option maxHeartbeats 1000000 in
set_option maxRecDepth 100000 in
theorem sourceT_12 (hs : tx.size ≤ 100000) (hu : un.size ≤ 100000) (ht : Tab w) (h3 : 3 < w.heap.size) :
    Calls Tryz.prog 17 #[.agg #[.int .i64 12, .string tx, .string un, .bool wh, .bool fl]] w fun e w' => e = .returned (.string (strOfNums (bytesL tx ++ unitL un))) ∧ Below w.heap.size w w' := by
  have hB1 : Below w.heap.size w ((w.alloc (.cells #[.int .i64 12, .string tx, .string un, .bool wh, .bool fl] 31)).alloc (.cells #[.pointer none, .slice none 0 0] 58)) := ((Below.refl _ w).alloc (Nat.le_refl _) _).alloc (by simp) _
  have hw := wr_new (w.alloc (.cells #[.int .i64 12, .string tx, .string un, .bool wh, .bool fl] 31))
  have hn0 := heap_alloc_new (w.alloc (.cells #[.int .i64 12, .string tx, .string un, .bool wh, .bool fl] 31)) (.cells #[.pointer none, .slice none 0 0] 58)
  have e9 : (w.alloc (.cells #[.int .i64 12, .string tx, .string un, .bool wh, .bool fl] 31)).heap.size = w.heap.size + 1 := by simp
  rw [e9] at hw hn0
  have ht0 : Tab ((w.alloc (.cells #[.int .i64 12, .string tx, .string un, .bool wh, .bool fl] 31)).alloc (.cells #[.pointer none, .slice none 0 0] 58)) := tab_below ht hB1 h3
  have hbl := bytesL_size tx
  have hstr := wr_first (w.heap.size + 1) tx hs _ hn0 hw
  have hc2 : ((w.alloc (.cells #[.int .i64 12, .string tx, .string un, .bool wh, .bool fl] 31)).alloc (.cells #[.pointer none, .slice none 0 0] 58)).heap[w.heap.size]? = some (.cells #[.int .i64 12, .string tx, .string un, .bool wh, .bool fl] 31 (0, 0)) := (Below.heap_alloc (w.alloc (.cells #[.int .i64 12, .string tx, .string un, .bool wh, .bool fl] 31)) (.cells #[.pointer none, .slice none 0 0] 58) w.heap.size (by simp)).trans (heap_alloc_new w (.cells #[.int .i64 12, .string tx, .string un, .bool wh, .bool fl] 31))
  clear e9 hw hn0
  go_enter Tryz.func17, Tryz.ntmps17
  go_wp2_with (go_at_call 48; fail)
  refine (hstr).mono ?_
  rintro e w1 ⟨⟨rn, rfl⟩, h1, b1⟩
  obtain ⟨d0, d1, d2, d3, d4, df⟩ := cells5 ((b1.block w.heap.size (by omega)).trans hc2)
  have ht1 := tab_below ht0 b1 (by omega)
  have hun := unit_all (w.heap.size + 1) (bytesL tx) un (by omega) w1 h1 ht1 (by omega) (by omega)
  clear hc2 hstr ht0
  go_wp2_with (go_at_call 49; fail)
  refine (hun).mono ?_
  rintro e w2 ⟨rfl, h2, b2⟩
  go_wp2_with (go_at_call 41; fail)
  refine (wr_string (w.heap.size + 1) (bytesL tx ++ unitL un) w2 h2).mono ?_
  rintro e w9 ⟨rfl, b9⟩
  go_wp2
  go_ret
  exact ⟨rfl, hB1.trans (((b1.trans b2).trans b9).mono (by omega))⟩

set_option maxHeartbeats 1000000 in
theorem sign_none (b : Nat) (k : Int) (hk : k < 16 ∨ 24 < k) : Calls Tryz.prog 50 #[.pointer (some ⟨b, 0, none⟩), .int .i64 k] w fun e w' => e = .returned (.tuple #[]) ∧ w = w' := by
  rcases hk with h | h
  · go_enter Tryz.func50, Tryz.ntmps50
    go_wp2
    go_end0
    exact ⟨rfl, rfl⟩
  · go_enter Tryz.func50, Tryz.ntmps50
    go_wp2
    go_end0
    exact ⟨rfl, rfl⟩
set_option maxHeartbeats 1000000 in
set_option maxRecDepth 100000 in
theorem sourceT_none (k : Int) (hk : ¬ (1 ≤ k ∧ k ≤ 5) ∧ ¬ (9 ≤ k ∧ k ≤ 24)) :
    Calls Tryz.prog 17 #[.agg #[.int .i64 k, .string tx, .string un, .bool wh, .bool fl]] w fun e w' => e = .returned (.string (strOfNums [])) ∧ Below w.heap.size w w' := by
  have hB1 : Below w.heap.size w ((w.alloc (.cells #[.int .i64 k, .string tx, .string un, .bool wh, .bool fl] 31)).alloc (.cells #[.pointer none, .slice none 0 0] 58)) := ((Below.refl _ w).alloc (Nat.le_refl _) _).alloc (by simp) _
  have hw := wr_new (w.alloc (.cells #[.int .i64 k, .string tx, .string un, .bool wh, .bool fl] 31))
  have e9 : (w.alloc (.cells #[.int .i64 k, .string tx, .string un, .bool wh, .bool fl] 31)).heap.size = w.heap.size + 1 := by simp
  rw [e9] at hw
  have h1 : (k == 1) = false := by simp; omega
  have h2 : (k == 2) = false := by simp; omega
  have h3 : (k == 3) = false := by simp; omega
  have h4 : (k == 4) = false := by simp; omega
  have h5 : (k == 5) = false := by simp; omega
  have h9 : (k == 9) = false := by simp; omega
  have h10 : (k == 10) = false := by simp; omega
  have h11 : (k == 11) = false := by simp; omega
  have h12 : (k == 12) = false := by simp; omega
  have h13 : (k == 13) = false := by simp; omega
  have h14 : (k == 14) = false := by simp; omega
  have h15 : (k == 15) = false := by simp; omega
  have hsg := fun w => sign_none w (w.heap.size + 1) k (by omega)
  have hsg2 := fun (W : World) => sign_none W (w.heap.size + 1) k (by omega)
  clear e9 hk hsg
  go_enter Tryz.func17, Tryz.ntmps17
  go_wp2_with (go_at_call 50; fail)
  refine (hsg2 _).mono ?_
  rintro e w1 ⟨rfl, rfl⟩
  go_wp2_with (go_at_call 41; fail)
  refine (wr_string (w.heap.size + 1) [] _ hw).mono ?_
  rintro e w9 ⟨rfl, b9⟩
  go_wp2
  go_ret
  exact ⟨rfl, hB1.trans (b9.mono (by omega))⟩
end

end Go.Proofs.YtbfgnfcecfjlnaaGreatDoor
