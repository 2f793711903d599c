/- dom.Doc's mayInsert and mayMove: the first thing that is wrong. -/
import Derived.Test.YtecbgleidohjpabUndN
import Derived.Test.YtecbgleidohjpabNewN
namespace Go.Proofs.Ytecbgleidohjpab.N
open Go.RowKit
set_option maxRecDepth 100000

/-- The first thing that is wrong with an Insert. -/
def insErr (m : M) (p i : Int) (tag : ByteArray) : Int := match m p with
  | none => 1
  | some e => if i < 0 ∨ (e.ks.length : Int) < i then 3 else if nameZ tag = false then 7 else if 512 ≤ (ups m p).length then 5 else 0
theorem own_slice {w : World} {B n : Nat} {e : TypeId} {sz : Nat} {v : Value} {xs : List Value} (h : w.ownsRow B e sz v n xs) : ∃ a c, v = .slice a n c := by
  rcases h.2 with ⟨rfl, rfl⟩ | ⟨g, cap, cur, rfl, _⟩
  · exact ⟨_, _, rfl⟩
  · exact ⟨_, _, rfl⟩
theorem dom_next_cell {w : World} {dp : Value} {m : M} {nx : Int} (h : Dom w dp m nx) : ∃ b tp, dp = .pointer (some ⟨b, 0, none⟩) ∧ b < w.heap.size ∧ ∀ W, Below w.heap.size w W → W.cell? ⟨b, 0, none⟩ = some tp ∧ W.cell? ⟨b, 1, none⟩ = some (.int .i64 nx) ∧ TrM W tp m := by
  obtain ⟨b, tp, rfl, h1, h2⟩ := h
  have hb := (Array.getElem?_eq_some_iff.1 h1).1
  refine ⟨b, tp, rfl, hb, fun W hW => ⟨?_, ?_, h2.keep hW⟩⟩
  · have := (hW.block b hb).trans h1
    simp [World.cell?, this]
  · have := (hW.block b hb).trans h1
    simp [World.cell?, this]
set_option maxHeartbeats 2000000 in
theorem mayInsert_any {uok : List (ByteArray × ByteArray) → Prop} {w : World} {dp : Value} {m : M} {nx : Int} {d : Int → Nat} (h : Dom w dp m nx) (I : Inv uok m nx d) (p i : Int) (tag : ByteArray) (hs : tag.size ≤ maxLen) : Calls Try.prog 22 #[dp, .int .i64 p, .int .i64 i, .string tag] w fun x w' => x = .returned (.int .i64 (insErr m p i tag)) ∧ Below w.heap.size w w' := by
  cases hp : m p with
  | none =>
    have HR : Hid (insErr m p i tag = 1) := by show _ = _; simp [insErr, hp]
    have hf := dom_find_none h hp
    clear h I hp
    go_enter Try.func22, Try.ntmps22
    go_wp2_with (go_at_call 24; fail)
    refine hf.mono ?_
    rintro x w1 ⟨rfl, hB⟩
    have HB := hid_mk hB
    clear hf hB
    go_wp2
    go_ret
    exact ⟨by rw [HR.out]; rfl, HB.out.alloc HB.out.size _⟩
  | some e =>
    have hf := dom_find h hp
    have hkl := I.ksLen hp
    have hnx := I.nxb
    have HNM : Hid (∀ W, Calls Try.prog 16 #[.string tag] W fun e w' => e = .returned (.bool (nameZ tag)) ∧ Below W.heap.size W w') := fun W => name_any tag W hs
    have HUP : Hid (∀ W, Below w.heap.size w W → Calls Try.prog 41 #[dp, .int .i64 p] W fun x w' => ∃ v, x = .returned v ∧ w'.ownsRow W.heap.size 3 1 v (ups m p).length (intsV (ups m p)) ∧ Below W.heap.size W w') := fun W hW => up_any (h.keep hW) I p
    obtain ⟨b, tp, rfl, hb, hcell⟩ := dom_next_cell h
    have HCL := hid_mk hcell
    have hul : (ups m p).length ≤ 512 := by rw [ups_len I hp]; exact I.top hp
    have HR : Hid (insErr m p i tag = if i < 0 ∨ (e.ks.length : Int) < i then 3 else if nameZ tag = false then 7 else if 512 ≤ (ups m p).length then 5 else 0) := by show _ = _; simp only [insErr, hp]
    generalize insErr m p i tag = R at *
    generalize (ups m p).length = U at *
    clear h I hp hcell hs
    go_enter Try.func22, Try.ntmps22
    go_wp2_with (go_at_call 24; fail)
    refine hf.mono ?_
    rintro x w1 ⟨s, rfl, hE, hB1⟩
    have hkn := hE.kn
    have HB1 := hid_mk hB1
    have hA : Below w.heap.size w (w1.alloc (.cells #[.int .i64 s.id, .string s.tag, .int .i64 s.par, .slice s.ka s.kn s.kc, .slice s.aa s.an s.ac] 41)) := hB1.alloc hB1.size _
    have HA := hid_mk hA
    rw [← hkn] at hkl HR
    clear hf hB1 hE hkn hA
    by_cases h1 : i < 0
    · have HRR : Hid (R = 3) := by have := HR.out; rw [if_pos (.inl h1)] at this; exact this
      go_wp2
      go_ret
      exact ⟨by rw [HRR.out]; rfl, HA.out⟩
    · by_cases h2 : (s.kn : Int) < i
      · have HRR : Hid (R = 3) := by have := HR.out; rw [if_pos (.inr h2)] at this; exact this
        go_wp2
        go_ret
        exact ⟨by rw [HRR.out]; rfl, HA.out⟩
      · have HR2 : Hid (R = if nameZ tag = false then 7 else if 512 ≤ U then 5 else 0) := by have := HR.out; rw [if_neg (by omega)] at this; exact this
        generalize nameZ tag = nb at *
        go_wp2_with (go_at_call 16; fail)
        refine (HNM.out _).mono ?_
        rintro x w2 ⟨rfl, hB2⟩
        have HB2 : Hid (Below w.heap.size w w2) := HA.out.trans (hB2.mono HA.out.size)
        clear HNM hB2 HR
        cases nb with
        | false =>
          have HRR : Hid (R = 7) := by have := HR2.out; rw [if_pos rfl] at this; exact this
          go_wp2
          go_ret
          exact ⟨by rw [HRR.out]; rfl, HB2.out⟩
        | true =>
          have HR3 : Hid (R = if 512 ≤ U then 5 else 0) := by have := HR2.out; rw [if_neg (by decide)] at this; exact this
          clear HR2
          go_wp2_with (go_at_call 41; fail)
          refine (HUP.out _ HB2.out).mono ?_
          rintro x w3 ⟨v, rfl, hown, hB3⟩
          obtain ⟨a, c, rfl⟩ := own_slice hown
          have HB3 : Hid (Below w.heap.size w w3) := HB2.out.trans (hB3.mono HB2.out.size)
          obtain ⟨c0, c1, _⟩ := HCL.out w3 HB3.out
          clear hB3 hown HUP
          by_cases h5 : 512 ≤ U
          · have HRR : Hid (R = 5) := by have := HR3.out; rw [if_pos h5] at this; exact this
            go_wp2
            go_ret
            exact ⟨by rw [HRR.out]; rfl, HB3.out⟩
          · have HRR : Hid (R = 0) := by have := HR3.out; rw [if_neg h5] at this; exact this
            go_wp2
            go_ret
            exact ⟨by rw [HRR.out]; rfl, HB3.out⟩

end Go.Proofs.Ytecbgleidohjpab.N
