/- Texts in a slice; gouacheref14.Texts; prop.Find and prop.Place. -/
import Derived.Test.YtaoodkpbhehdgaaPFo
import Derived.Laws.OwnMore
import Derived.OwnWalk
import Derived.Deep.QuietTactic
import Derived.BigQuiet
import Derived.Deep.DeepCutAuto
import Derived.Deep.CutBlock
import Derived.WalkSmall
import Derived.WalkMore
import Derived.WalkLawsBesides
import Derived.Deep.RegionHeld3
import Derived.Laws.IdiomStrings
import Derived.Deep.AppendLies
import Derived.Maps.AppendAt
import Derived.Handy
namespace Go.Proofs.Ytaoodkpbhehdgaa
open Go.RowKit
set_option maxRecDepth 100000

/-- Texts in a slice. -/
def StrAt (w : World) (v : Value) (l : List ByteArray) : Prop := w.ownsRow 0 9 1 v l.length (l.map Value.string)
theorem own_below {w w' : World} {B e size n : Nat} {v : Value} {xs : List Value} (h : w.ownsRow B e size v n xs) (hb : Below w.heap.size w w') : w'.ownsRow B e size v n xs := by
  refine ⟨h.1, ?_⟩
  rcases h.2 with ⟨hv, hn⟩ | ⟨g, cap, cur, hv, hB, hg, rest⟩
  · exact .inl ⟨hv, hn⟩
  · exact .inr ⟨g, cap, cur, hv, hB, (hb.block g (Array.getElem?_eq_some_iff.1 hg).1).trans hg, rest⟩
theorem StrAt.keep {w w' : World} {v : Value} {l : List ByteArray} (h : StrAt w v l) (hb : Below w.heap.size w w') : StrAt w' v l := own_below h hb
theorem StrAt.of {w : World} {B : Nat} {v : Value} {l : List ByteArray} (h : w.ownsRow B 9 1 v l.length (l.map Value.string)) : StrAt w v l := by
  refine ⟨h.1, ?_⟩
  rcases h.2 with ⟨hv, hn⟩ | ⟨g, cap, cur, hv, hB, rest⟩
  · exact .inl ⟨hv, hn⟩
  · exact .inr ⟨g, cap, cur, hv, Nat.zero_le _, rest⟩
theorem StrAt.nil (w : World) : StrAt w (.slice none 0 0) [] := World.ownsRow_nil _ _ _ _
theorem StrAt.lit (w : World) (l : List ByteArray) (hl : l.length ≤ 1000000) : StrAt (w.alloc (.cells (l.map Value.string).toArray 9)) (.slice (some ⟨w.heap.size, 0, none⟩) l.length l.length) l := by
  have := World.ownsRow_lit (base := 0) (e := 9) (size := 1) w (l.map Value.string).toArray l.length (Nat.zero_le _) (by unfold maxLen; omega) (by simp)
  unfold StrAt
  simpa using this
theorem StrAt.form {w : World} {v : Value} {l : List ByteArray} (h : StrAt w v l) : ∃ a cap, v = .slice a l.length cap ∧ l.length ≤ cap ∧ cap ≤ 9223372036854775807 ∧ (0 < l.length → ∃ g, a = some ⟨g, 0, none⟩ ∧ ∀ k s, l[k]? = some s → w.cell? ⟨g, k, none⟩ = some (.string s)) := by
  rcases h.2 with ⟨hv, hn⟩ | ⟨g, cap, cur, hv, _, hg, hm, hc, hs, _⟩
  · exact ⟨none, 0, by rw [hv, hn], by omega, by omega, fun h => by omega⟩
  · refine ⟨_, _, hv, hm, ?_, fun _ => ⟨g, rfl, fun k s hk => ?_⟩⟩
    · unfold maxLen at hc
      omega
    · have := World.ownsRow.cells h (g := g) (by rw [hv]; rfl) k (.string s) (by rw [List.getElem?_map, hk]; rfl)
      rw [Addr.add_mid, Nat.zero_add] at this
      exact this
theorem lt_of_cell {w : World} {a : Addr} {v : Value} (h : w.cell? a = some v) : a.block < w.heap.size := by
  unfold World.cell? at h
  cases hx : w.heap[a.block]? with
  | none => rw [hx] at h; cases h
  | some o => exact (Array.getElem?_eq_some_iff.1 hx).1

set_option maxHeartbeats 2000000 in
/-- gouacheref14.Texts of the same texts. -/
theorem texts_yes {w : World} {v1 v2 : Value} {l : List ByteArray} (h1 : StrAt w v1 l) (h2 : StrAt w v2 l) : Calls Try.prog 14 #[v1, v2] w fun e w' => e = .returned (.bool true) ∧ Below w.heap.size w w' := by
  obtain ⟨a1, c1, rfl, hc1, hm1, ha1⟩ := h1.form
  obtain ⟨a2, c2, rfl, hc2, hm2, ha2⟩ := h2.form
  have hln : l.length ≤ 9223372036854775807 := by omega
  have HA1 := hid_mk ha1
  have HA2 := hid_mk ha2
  have HL1 := hid_mk h1
  clear ha1 ha2 h1 h2
  have HLT : Hid (∀ k, k < l.length → ∃ s, l[k]? = some s) := fun k hk => ⟨_, List.getElem?_eq_getElem hk⟩
  have HL : Hid (∀ g1 g2, a1 = some ⟨g1, 0, none⟩ → a2 = some ⟨g2, 0, none⟩ → ∀ wq k s, Below w.heap.size w wq → l[k]? = some s → wq.cell? ⟨g1, k, none⟩ = some (.string s) ∧ wq.cell? ⟨g2, k, none⟩ = some (.string s)) := fun g1 g2 e1 e2 wq k s hb hk => by
    have hlt : k < l.length := (List.getElem?_eq_some_iff.1 hk).1
    obtain ⟨g1', e1', q1⟩ := HA1.out (by omega)
    obtain ⟨g2', e2', q2⟩ := HA2.out (by omega)
    rw [e1] at e1'
    rw [e2] at e2'
    injection e1' with e1'
    injection e1' with e1'
    injection e2' with e2'
    injection e2' with e2'
    subst e1' e2'
    have w1 := q1 k s hk
    have w2 := q2 k s hk
    exact ⟨(hb.cell (p := ⟨g1, k, none⟩) (lt_of_cell w1)).trans w1, (hb.cell (p := ⟨g2, k, none⟩) (lt_of_cell w2)).trans w2⟩
  generalize l.length = n at *
  go_enter Try.func14, Try.ntmps14
  go_wp2
  go_loopw [13] (fun p wr => ∃ k : Nat, p = .int .i64 (k : Int) ∧ k ≤ n ∧ Hid (Below w.heap.size w wr)) (fun p _ => n + 1 - (intOf p).toNat)
  case atStart => exact ⟨0, rfl, Nat.zero_le _, hid_mk (Below.refl _ _)⟩
  case round =>
    obtain ⟨k, rfl, hk, HB⟩ := hrel
    by_cases hlt : k < n
    · obtain ⟨g1, rfl, _⟩ := HA1.out (by omega)
      obtain ⟨g2, rfl, _⟩ := HA2.out (by omega)
      obtain ⟨s, hs⟩ := HLT.out k hlt
      obtain ⟨q1, q2⟩ := HL.out g1 g2 rfl rfl wr k s HB.out hs
      clear hs
      go_upto_region 6 with fail
      go_quiet (fail)
      go_wp2
      refine ⟨⟨k + 1, by simp, by omega, hid_mk (HB.out.trans ⟨rfl, rfl, rfl, Nat.le_refl _, fun _ _ => rfl⟩)⟩, ?_⟩
      simp only [intOf]
      omega
    · have HBo := HB.out
      go_wp2
      go_ret
      exact ⟨rfl, HBo⟩
end Go.Proofs.Ytaoodkpbhehdgaa
