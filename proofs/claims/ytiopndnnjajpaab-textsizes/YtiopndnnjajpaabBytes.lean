/- What text.Bytes and gouacheref01.Bytes answer: the characters' bytes, one behind the other. -/
import Derived.Test.YtiopndnnjajpaabEnc
namespace Go.Proofs.Ytiopndnnjajpaab
open Go.RowKit

def bytesZ (xs : List Int) : List Int := xs.flatMap Lib.encodeRuneZ

theorem bytesZ_len (xs : List Int) : (bytesZ xs).length ≤ 4 * xs.length := by
  induction xs with
  | nil => simp [bytesZ]
  | cons x r ih =>
    have h := (Lib.encodeRuneZ_length x).2
    have e : bytesZ (x :: r) = Lib.encodeRuneZ x ++ bytesZ r := by simp [bytesZ]
    rw [e, List.length_append, List.length_cons]
    omega

theorem bytesZ_take {xs : List Int} {k : Nat} (h : k < xs.length) : bytesZ (xs.take (k + 1)) = bytesZ (xs.take k) ++ Lib.encodeRuneZ (xs.getD k 0) := by
  rw [List.take_succ_eq_append_getElem h, bytesZ, List.flatMap_append, ← bytesZ]
  congr 1
  simp [List.getD, h]

theorem bytesZ_wf (xs : List Int) : ∀ n ∈ bytesZ xs, (Lit.int .u8 n).wf = true := by
  intro n hn
  obtain ⟨x, _, hx⟩ := List.mem_flatMap.1 hn
  have := Lib.encodeRuneZ_byte x n hx
  simp [Lit.wf, IntKind.min, IntKind.max, IntKind.signed, IntKind.bits]
  omega

theorem news_block {w : World} {l : List Int} : ∀ (j : Nat) u, (l.map (Value.int .u8))[j]? = some u → (w.alloc (.cells (l.map (Value.int .u8)).toArray 5)).cell? ((⟨w.heap.size, 0, none⟩ : Addr).add j) = some u := by
  intro j u hj
  have e : (⟨w.heap.size, 0, none⟩ : Addr).add j = ⟨w.heap.size, j, none⟩ := by unfold Addr.add; split <;> simp_all
  rw [e, World.cell?_alloc_new]
  simpa using hj

set_option maxHeartbeats 4000000 in
set_option maxRecDepth 1000000 in
theorem bytes_any (v : Value) (xs : List Int) (w : World) (hl : xs.length ≤ 1000000000) (hv : RowAt .i32 w v xs) (hx : ∀ n ∈ xs, (Lit.int .i32 n).wf = true) :
    Calls Try.prog 5 #[v] w fun e w' => ∃ u, e = .returned u ∧ w'.ownsRow w.heap.size 5 1 u (bytesZ xs).length ((bytesZ xs).map (Value.int .u8)) ∧ Below w.heap.size w w' := by
  obtain ⟨i0, hi, hz0, hz1, hz2⟩ := info_parts Try.info5
  obtain ⟨a, cap, rfl, hcap, hc⟩ := hv
  go_enter Try.func5, Try.ntmps5
  go_wp2_with (at_make; go_must (refine wpList_make_own _ rfl _ _ 24 rfl w.heap.size 5 i0 (.int .u8 0) 1 Try.underlying24 hi hz0 hz1 .i64 .i64 _ xs.length rfl rfl rfl (by rw [hz2]; omega) (by unfold maxLen; omega) (Nat.le_refl _) ?_); intro w2 hown2 hgrow2)
  have hb2 : Below w.heap.size w w2 := (Below.refl _ w).grown hgrow2 (Nat.le_refl _) (by simp)
  clear hgrow2
  go_loopw [3, 11] (fun out i wr => ∃ (k : Nat) (acc : List Int), k ≤ xs.length ∧ i = .int .i64 k ∧ wr.ownsRow w.heap.size 5 1 out acc.length (acc.map (Value.int .u8)) ∧ Below w.heap.size w wr ∧ acc = bytesZ (xs.take k)) (fun _ i _ => xs.length - (intOf i).toNat)
  case atStart => exact ⟨0, [], Nat.zero_le _, rfl, hown2, hb2, rfl⟩
  case round =>
    clear hown2 hb2
    obtain ⟨k, acc, hk, rfl, hown, hbel, hacc⟩ := hrel
    have hal : acc.length ≤ 4000000000 := by
      have := bytesZ_len (xs.take k)
      rw [hacc]
      simp at this
      omega
    by_cases hlt : k < xs.length
    · obtain ⟨b, off, rfl, hcell⟩ := hc (by omega)
      obtain ⟨c, hck⟩ : ∃ c, xs.getD k 0 = c := ⟨_, rfl⟩
      have c0 : wr.cell? ⟨b, off + k, none⟩ = some (.int .i32 c) := by
        have := hcell k hlt
        rw [hck] at this
        exact (hbel.cell (World.block_lt_of_cell? w _ this)).trans this
      have hcb : -2147483648 ≤ c ∧ c ≤ 2147483647 := by
        have hm : c ∈ xs := by rw [← hck]; simp [List.getD, hlt]
        simpa [Lit.wf, IntKind.min, IntKind.max, IntKind.signed, IntKind.bits] using hx c hm
      have HA : Hid (acc ++ Lib.encodeRuneZ c = bytesZ (xs.take (k + 1))) := by
        show _ = _
        rw [bytesZ_take hlt, hck, hacc]
      have hsz := hbel.size
      clear hacc hck hcell hc hx
      go_wp2_with (go_at_call 10; go_must (refine (append_any w.heap.size _ _ _ c hcb.1 hcb.2 _ hown (by omega) hsz).mono ?_); rintro e w5 ⟨v', rfl, ho5, hb5⟩)
      go_roundw
      case rel => exact ⟨k + 1, acc ++ Lib.encodeRuneZ c, by omega, by go_num, by simpa using ho5, hbel.trans hb5, HA.out⟩
      case measure => simp [intOf]; omega
    · have HR : Hid (acc = bytesZ xs) := by
        show _ = _
        rw [hacc, List.take_of_length_le (by omega)]
      clear hacc
      go_wp2
      go_ret
      have := HR.out
      subst this
      exact ⟨_, rfl, hown, hbel⟩

end Go.Proofs.Ytiopndnnjajpaab
