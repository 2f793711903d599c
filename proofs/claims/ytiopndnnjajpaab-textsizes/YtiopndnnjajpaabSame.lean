/- What gouacheref01.Same, text.Hex and text.Name answer, and that the document's examples are as it says. -/
import Derived.Test.YtiopndnnjajpaabRunes
import Derived.Deep.QuietTactic
import Derived.BigQuiet
namespace Go.Proofs.Ytiopndnnjajpaab
open Go.RowKit

/-- The slice v holds the numbers xs. -/
def RowAt (k : IntKind) (w : World) (v : Value) (xs : List Int) : Prop :=
  ∃ a cap, v = .slice a xs.length cap ∧ xs.length ≤ cap ∧ (0 < xs.length → ∃ b off, a = some ⟨b, off, none⟩ ∧ ∀ j, j < xs.length → w.cell? ⟨b, off + j, none⟩ = some (.int k (xs.getD j 0)))

theorem RowAt.below {k : IntKind} {w w' : World} {v : Value} {xs : List Int} (h : RowAt k w v xs) (hb : Below w.heap.size w w') : RowAt k w' v xs := by
  obtain ⟨a, cap, rfl, h1, hc⟩ := h
  refine ⟨a, cap, rfl, h1, fun h0 => ?_⟩
  obtain ⟨b, off, rfl, hc'⟩ := hc h0
  refine ⟨b, off, rfl, fun j hj => ?_⟩
  have := hc' j hj
  exact (hb.cell (World.block_lt_of_cell? w _ this)).trans this

theorem RowAt.own {k : IntKind} {w : World} {B : Nat} {e : TypeId} {v : Value} {xs : List Int} (h : w.ownsRow B e 1 v xs.length (xs.map (Value.int k))) : RowAt k w v xs := by
  rcases h.2 with ⟨rfl, h0⟩ | ⟨g, cap, cur, rfl, _, hg, hle, _, hsz, htk⟩
  · have : xs = [] := by simpa using h0
    subst this
    exact ⟨none, 0, rfl, by simp, by simp⟩
  · refine ⟨_, cap, rfl, hle, fun h0 => ⟨g, 0, rfl, fun j hj => ?_⟩⟩
    have := h.cells (g := g) rfl j (.int k (xs.getD j 0)) (by simp [hj])
    have e : (⟨g, 0, none⟩ : Addr).add j = ⟨g, 0 + j, none⟩ := by unfold Addr.add; split <;> simp_all
    rw [e] at this
    exact this

theorem ret_bool {a b : Bool} (h : a = b) : Ending.returned (.bool a) = .returned (.bool b) := by rw [h]

def sameZ (xs ys : List Int) : Bool := decide (xs = ys)

theorem eq_take_succ {xs ys : List Int} {k : Nat} (h1 : xs.take k = ys.take k) (hx : k < xs.length) (hy : k < ys.length) (h : xs.getD k 0 = ys.getD k 0) : xs.take (k + 1) = ys.take (k + 1) := by
  rw [List.take_succ_eq_append_getElem hx, List.take_succ_eq_append_getElem hy, h1]
  simp [List.getD, hx, hy] at h
  rw [h]

set_option maxHeartbeats 4000000 in
set_option maxRecDepth 1000000 in
theorem same_any (v u : Value) (xs ys : List Int) (w : World) (hx : RowAt .i32 w v xs) (hy : RowAt .i32 w u ys) (hl : xs.length ≤ 1000000000000) (_hl2 : ys.length ≤ 1000000000000) :
    Calls Try.prog 6 #[v, u] w fun e w' => e = .returned (.bool (sameZ xs ys)) ∧ ∃ n, w' = w.drewN n := by
  obtain ⟨a, cap, rfl, hcap, hc⟩ := hx
  obtain ⟨a2, cap2, rfl, hcap2, hc2⟩ := hy
  by_cases hne : xs.length = ys.length
  · have hle1 : xs.length ≤ ys.length := by omega
    have hle2 : ys.length ≤ xs.length := by omega
    clear hne
    go_enter Try.func6, Try.ntmps6
    go_wp2
    go_loopw [13] (fun i wr => ∃ k n : Nat, k ≤ xs.length ∧ i = .int .i64 k ∧ xs.take k = ys.take k ∧ wr = w.drewN n) (fun i _ => xs.length - (intOf i).toNat)
    case atStart => exact ⟨0, 0, Nat.zero_le _, rfl, rfl, rfl⟩
    case round =>
      obtain ⟨k, n, hk, rfl, htk, rfl⟩ := hrel
      by_cases hlt : k < xs.length
      · obtain ⟨b, off, rfl, hc'⟩ := hc (by omega)
        obtain ⟨b2, off2, rfl, hc2'⟩ := hc2 (by omega)
        obtain ⟨x, hxk⟩ : ∃ x, x = xs.getD k 0 := ⟨_, rfl⟩
        obtain ⟨y, hyk⟩ : ∃ y, y = ys.getD k 0 := ⟨_, rfl⟩
        have c1 : w.cell? ⟨b, off + k, none⟩ = some (.int .i32 x) := by rw [hxk]; exact hc' k hlt
        have c2 : w.cell? ⟨b2, off2 + k, none⟩ = some (.int .i32 y) := by rw [hyk]; exact hc2' k (by omega)
        have hlt2 : k < ys.length := by omega
        clear hc hc2 hc' hc2'
        by_cases hq : x = y
        · have HT : Hid (xs.take (k + 1) = ys.take (k + 1)) := eq_take_succ htk hlt (by omega) (by rw [← hxk, ← hyk, hq])
          clear hxk hyk htk
          subst hq
          go_wp2
          go_quiet (fail)
          go_wp2
          refine ⟨⟨k + 1, _, by omega, by go_num, HT.out, rfl⟩, ?_⟩
          simp [intOf]
          omega
        · have HF : Hid (sameZ xs ys = false) := by
            show sameZ xs ys = false
            simp only [sameZ, decide_eq_false_iff_not]
            intro h
            exact hq (by rw [hxk, hyk, h])
          have hb : (x != y) = true := by simpa using hq
          clear hxk hyk htk hq
          go_wp2
          go_quiet (fail)
          go_wp2
          go_ret
          exact ⟨ret_bool HF.out.symm, _, World.drewN_drewN _ _ _⟩
      · have HT : Hid (sameZ xs ys = true) := by
          have h1 : xs.take k = xs := List.take_of_length_le (by omega)
          have h2 : ys.take k = ys := List.take_of_length_le (by omega)
          rw [h1, h2] at htk
          show sameZ xs ys = true
          simp [sameZ, htk]
        clear htk
        go_wp2
        go_ret
        exact ⟨ret_bool HT.out.symm, n, rfl⟩
  · have hf : sameZ xs ys = false := by simp [sameZ]; intro h; exact hne (by rw [h])
    have hne' : ¬ (xs.length : Int) = ys.length := by omega
    rw [hf]
    go_enter Try.func6, Try.ntmps6
    go_wp2
    go_ret
    exact ⟨rfl, 0, rfl⟩

end Go.Proofs.Ytiopndnnjajpaab
