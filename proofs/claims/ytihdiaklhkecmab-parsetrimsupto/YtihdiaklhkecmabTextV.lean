/- The values of a text. -/
import Derived.Test.YtihdiaklhkecmabDeclsV
import Derived.Test.YtihdiaklhkecmabRefRunes
namespace Go.Proofs.Ytihdiaklhkecmab
open Go.RowKit
set_option maxRecDepth 100000

def t5 (t : Tok) : T5 := ⟨t.kind, strT t.text, strT t.unit, t.whole, t.flag⟩
theorem flat5_at : ∀ (ts : List Tok) (k i : Nat) (h : k < ts.length), i < 5 → (ts.flatMap tokCells)[k * 5 + i]? = (tokCells (ts[k]'h))[i]?
  | [], k, _, h, _ => by simp at h
  | t :: r, 0, i, _, hi => by
    simp only [List.flatMap_cons, Nat.zero_mul, Nat.zero_add]
    rw [List.getElem?_append_left (by simpa [tokCells] using hi)]
    rfl
  | t :: r, k + 1, i, h, hi => by
    have e : (k + 1) * 5 + i = 5 + (k * 5 + i) := by omega
    rw [List.flatMap_cons, e, List.getElem?_append_right (by simp [tokCells])]
    have e2 : 5 + (k * 5 + i) - (tokCells t).length = k * 5 + i := by simp [tokCells]
    rw [e2]
    exact flat5_at r k i (by simpa using h) hi
theorem TsAt.own {w : World} {B : Nat} {v : Value} {ts : List Tok} (h : w.ownsRow B 27 5 v ts.length (ts.flatMap tokCells)) : TsAt w v (ts.map t5) := by
  have hlm : (ts.map t5).length = ts.length := List.length_map ..
  obtain ⟨hl, h⟩ := h
  rcases h with ⟨rfl, hn⟩ | ⟨g, cap, cur, rfl, _, hg, hnc, hcm, hsz, hx⟩
  · have hts : ts = [] := List.length_eq_zero_iff.1 hn
    subst hts
    exact TsAt.nil w
  · refine ⟨_, cap, by rw [hlm], by omega, hcm, fun _ => ⟨g, 0, rfl, (Array.getElem?_eq_some_iff.1 hg).1, fun i hi j y hy => ?_⟩⟩
    rw [hlm] at hi
    have hj : j < 5 := by
      have := (List.getElem?_eq_some_iff.1 hy).1
      simpa [t5Cells] using this
    have h1 : (ts.flatMap tokCells)[i * 5 + j]? = some y := by
      rw [flat5_at ts i j hi hj, ← hy, List.getElem_map]
      rfl
    have hlt : i * 5 + j < ts.length * 5 := by omega
    rw [← hx, List.getElem?_take_of_lt hlt] at h1
    rw [Nat.zero_add]
    simp only [World.cell?, hg]
    simpa using h1

set_option maxHeartbeats 1000000 in
theorem vtext_any (s : ByteArray) (w : World) (hs : s.size ≤ 1000000000) (hf : Fine (runesZ s)) (hl : (toks (runesZ s)).length ≤ 100000) :
    Calls Try.prog 11 #[.string s] w fun e w' => ∃ out, e = .returned out ∧ VsAt (fun b => w.heap.size ≤ b) w' out (valsZ ((toks (runesZ s)).map t5)) ∧ Below w.heap.size w w' := by
  obtain ⟨g, cap, W, hcv, hcap, hg, hcell, hfr, hb⟩ := bytesOf s w
  have hba : BytesAt W (.slice (some ⟨g, 0, none⟩) s.size cap) s := ⟨_, cap, rfl, hcap, fun _ => ⟨g, 0, rfl, fun j hj => by rw [Nat.zero_add]; exact hcell j hj⟩⟩
  have h1 := refRunes_any _ s W hs hba
  have HF := hid_mk hf
  have HL := hid_mk hl
  clear hcell hfr hba hf hl
  go_enter Try.func11, Try.ntmps11
  go_wp2_with (go_at_call 22; fail)
  refine h1.mono ?_
  rintro e w1 ⟨u, rfl, hown, hb1⟩
  have h2 := rtokens_any (RowAt.own hown) HF.out
  obtain ⟨ua, uc, rfl, _⟩ := RowAt.own hown
  have hB1 : Below w.heap.size w w1 := hb.trans (hb1.mono hb.size)
  clear hown h1 hcv hb hb1
  generalize hrs : runesZ s = rs at *
  have HRS := hid_mk hrs
  clear hrs
  go_wp2_with (go_at_call 21; fail)
  refine h2.mono ?_
  rintro e w2 ⟨o2, rfl, ho2, hb2⟩
  have hB2 : Below w.heap.size w w2 := hB1.trans (hb2.mono hB1.size)
  have h3 := values_any (TsAt.own ho2) (by rw [List.length_map]; exact HL.out)
  obtain ⟨a2, c2, rfl, _⟩ := TsAt.own ho2
  clear h2 ho2
  generalize hts : (toks rs).map t5 = ts at *
  have HTS := hid_mk hts
  clear hts
  go_wp2_with (go_at_call 20; fail)
  refine h3.mono ?_
  rintro e w3 ⟨o3, rfl, ho3, hb3⟩
  have HO : Hid (VsAt (fun b => w.heap.size ≤ b) w3 o3 (valsZ ts)) := ho3.wider (fun b hb _ => Nat.le_trans hB2.size hb)
  obtain ⟨a3, c3, rfl, _, _⟩ := ho3.slice
  clear ho3 h3
  go_wp2
  go_ret
  exact ⟨_, rfl, by rw [HRS.out, HTS.out]; exact HO.out, hB2.trans (hb3.mono hB2.size)⟩

end Go.Proofs.Ytihdiaklhkecmab
