/- selector.Text. The example of layer 12. -/
import Derived.Test.YtdgkhpkgjkpmnaaGreatDoorLPw
import Derived.Test.YtdgkhpkgjkpmnaaGreatDoorToks
import Derived.Test.YtdgkhpkgjkpmnaaGreatDoorYValuesV
import Derived.Test.YtdgkhpkgjkpmnaaGreatDoorKLc
namespace Go.Proofs.YtdgkhpkgjkpmnaaGreatDoor.L
open Go.RowKit
set_option maxRecDepth 100000

theorem charsFrom_len (s : ByteArray) : ∀ (f pos : Nat), (charsFrom s f pos).length ≤ f
  | 0, _ => by simp [charsFrom]
  | f + 1, pos => by
    rw [charsFrom]
    split
    · have := charsFrom_len s f (pos + (Utf8.decode s pos).2)
      simp only [List.length_cons]
      omega
    · simp
theorem norm_len : ∀ (l : List Int) (last : Int), (normZ last l).length ≤ l.length
  | [], last => by simp [normZ]
  | c :: r, last => by
    have h1 := norm_len r c
    rw [normZ]
    split
    · simp only [List.length_cons]; omega
    · simp only [List.length_cons]; omega
theorem runes_len (s : ByteArray) : (runesZ s).length ≤ s.size := Nat.le_trans (norm_len _ _) (charsFrom_len s _ _)
theorem runes_fine (s : ByteArray) (hs : s.size ≤ 1000000000) : Fine (runesZ s) := ⟨Nat.le_trans (runes_len s) hs, fun c hc => (runes_told s c hc).1⟩
def toT5 (t : Tok) : T5 := ⟨t.kind, strT t.text, strT t.unit, t.whole, t.flag⟩
/-- The values of a text. -/
def valsS (s : ByteArray) : List V := Y.valsZ ((toks (runesZ s)).map toT5)
theorem toks_at : ∀ {ts : List Tok} {i : Nat} (h : i < ts.length) (j : Nat) (y : Value), (t5Cells (toT5 (ts[i]'h)))[j]? = some y → (ts.flatMap tokCells)[i * 5 + j]? = some y
  | t :: r, 0, _, j, y, hy => by
    have hy : (tokCells t)[j]? = some y := hy
    rw [List.flatMap_cons, Nat.zero_mul, Nat.zero_add, List.getElem?_append_left (List.getElem?_eq_some_iff.1 hy).1]
    exact hy
  | t :: r, i + 1, h, j, y, hy => by
    have hl : (tokCells t).length = 5 := rfl
    rw [List.flatMap_cons, List.getElem?_append_right (by omega), hl, show (i + 1) * 5 + j - 5 = i * 5 + j by omega]
    exact toks_at (ts := r) (i := i) (by simpa using h) j y hy
theorem outs_ts {B : Nat} {w : World} {out : Value} {ts : List Tok} (h : Outs B w out ts) : Y.TsAt w out (ts.map toT5) := by
  have hl : (ts.map toT5).length = ts.length := List.length_map ..
  rcases h.2 with ⟨rfl, e⟩ | ⟨g, cap, cur, rfl, h1, h2, h3, h4, h5, h6⟩
  · exact ⟨none, 0, by rw [hl, e], by rw [hl, e]; exact Nat.le_refl _, by decide, fun h0 => by rw [hl, e] at h0; omega⟩
  · refine ⟨_, cap, by rw [hl], by rw [hl]; exact h3, h4, fun _ => ⟨g, 0, rfl, (Array.getElem?_eq_some_iff.1 h2).1, fun i hi j y hy => ?_⟩⟩
    have hi' : i < ts.length := by rw [← hl]; exact hi
    rw [List.getElem_map] at hy
    have h7 := own_news h (i * 5 + j) y (toks_at hi' j y hy)
    rw [Addr.add_mid] at h7
    rw [Nat.add_assoc]
    exact h7
/-- What Text answers. -/
def TxPost (W : World) (R : Option (List Cx)) (e : Ending) (w' : World) : Prop := match R with
  | none => e = .returned (.tuple #[.slice none 0 0, .int .i64 4]) ∧ Below W.heap.size W w'
  | some l => ∃ u, e = .returned (.tuple #[u, .int .i64 0]) ∧ ClAt w' u l ∧ Below W.heap.size W w'

set_option maxHeartbeats 1000000 in
theorem text_any (s : ByteArray) (W : World) (hsg : Signs W) (hs : s.size ≤ 65536) (hn : (toks (runesZ s)).length ≤ 100000) (hf : Fit (valsS s)) (hc : cntL (valsS s) ≤ 500000) :
    Calls Tryz.prog 8 #[.string s] W (TxPost W (parseZ (valsS s))) := by
  obtain ⟨g, cap, W1, hcv, hcap, hg, hcell, _, hB⟩ := bytesOf s W
  have hba : BytesAt W1 (.slice (some ⟨g, 0, none⟩) s.size cap) s := ⟨_, _, rfl, hcap, fun _ => ⟨g, 0, rfl, fun j hj => by simpa using hcell j hj⟩⟩
  have hru := runes_any _ s W1 (by omega) hba
  have HFI := hid_mk (runes_fine s (by omega))
  have HSG : Hid (∀ w, Below W.heap.size W w → Signs w) := fun w h => hsg.keep h
  have HF := hid_mk hf
  have HC := hid_mk hc
  have HNN := hid_mk hn
  have hd : decide ((65536 : Int) < (s.size : Int)) = false := decide_eq_false (by omega)
  have hd2 : ¬ ((65536 : Int) < (s.size : Int)) := by omega
  have HVS : Hid (valsS s = Y.valsZ ((toks (runesZ s)).map toT5)) := rfl
  generalize valsS s = vs at *
  have HB := hid_mk hB
  clear hcell hba hf hc hsg hB hn
  go_enter Tryz.func8, Tryz.ntmps8
  go_wp2_with (go_at_call 13; fail)
  refine hru.mono ?_
  rintro e w2 ⟨u, rfl, hown, hb2⟩
  have hrow := RowAt.own hown
  obtain ⟨a, c2, hu⟩ : ∃ a c2, u = .slice a (runesZ s).length c2 := by
    rcases hown.2 with ⟨hv, hz⟩ | ⟨g2, c2, cur, hv, _⟩
    · exact ⟨none, 0, by rw [hv, hz]⟩
    · exact ⟨_, c2, hv⟩
  have hlow : ∀ ad, a = some ad → ad.block < w2.heap.size := by
    intro ad e
    rcases hown.2 with ⟨hv, _⟩ | ⟨g2, c3, cur, hv, _, hg2, _⟩
    · rw [hv, e] at hu; cases hu
    · rw [hv, e] at hu
      cases hu
      exact (Array.getElem?_eq_some_iff.1 hg2).1
  subst hu
  have ht := tokens_any a c2 (runesZ s) w2 HFI.out hrow hlow
  have HB2 : Hid (Below W.heap.size W w2) := HB.out.trans (hb2.mono HB.out.size)
  generalize runesZ s = xs at *
  clear hru hown hrow hlow hb2 HB
  go_wp2_with (go_at_call 12; fail)
  refine ht.mono ?_
  rintro e w3 ⟨out, rfl, ho, hb3⟩
  have hvl := Y.values_any (outs_ts ho) (by rw [List.length_map]; exact HNN.out)
  rw [← HVS.out] at hvl
  have HB3 : Hid (Below W.heap.size W w3) := HB2.out.trans (hb3.mono HB2.out.size)
  obtain ⟨oa, on, oc, rfl⟩ := own_sl ho
  clear ht ho hb3
  go_wp2_with (go_at_call 11; fail)
  refine hvl.mono ?_
  rintro e w4 ⟨vo, rfl, hvo, hb4⟩
  have hB4 : Below W.heap.size W w4 := HB3.out.trans (hb4.mono HB3.out.size)
  have hpa := parse_any hvo (HSG.out w4 hB4) HF.out HC.out
  obtain ⟨va, vc, rfl, _, _⟩ := hvo.slice
  have HB4 := hid_mk hB4
  generalize parseZ vs = R at *
  clear hvl hvo hb4 hB4
  go_wp2_with (go_at_call 10; fail)
  refine hpa.mono ?_
  rintro e w5 hq
  cases R with
  | none =>
    obtain ⟨rfl, hb5⟩ := hq
    have HB5 : Hid (Below W.heap.size W w5) := HB4.out.trans (hb5.mono HB4.out.size)
    clear hpa hb5
    go_wp2
    go_ret2
    exact ⟨rfl, HB5.out⟩
  | some l =>
    obtain ⟨u, rfl, hcl, hb5⟩ := hq
    have HB5 : Hid (Below W.heap.size W w5) := HB4.out.trans (hb5.mono HB4.out.size)
    have HCL := hid_mk hcl
    have hsl : ∃ ua un uc, u = .slice ua un uc := by
      obtain ⟨_, _, ⟨a, c, e, _⟩, _⟩ := hcl.at
      exact ⟨_, _, _, e⟩
    obtain ⟨ua, un, uc, rfl⟩ := hsl
    clear hpa hb5 hcl
    go_wp2
    go_ret2
    exact ⟨_, rfl, HCL.out, HB5.out⟩
end Go.Proofs.YtdgkhpkgjkpmnaaGreatDoor.L
namespace Go.Proofs.YtdgkhpkgjkpmnaaGreatDoor.L
open Go.RowKit
set_option maxRecDepth 100000

def docS : ByteArray := ⟨#[97, 46, 98, 44, 32, 99, 44, 32, 42, 58, 110, 111, 116, 40, 97, 41]⟩
def tk (k : Int) (s : ByteArray) : T5 := ⟨k, s, ⟨#[]⟩, false, false⟩
def docV : List V := [.mk (tk 1 ⟨#[97]⟩) [], .mk (tk 9 ⟨#[46]⟩) [], .mk (tk 1 ⟨#[98]⟩) [], .mk (tk 18 ⟨#[]⟩) [], .mk (tk 13 ⟨#[]⟩) [], .mk (tk 1 ⟨#[99]⟩) [], .mk (tk 18 ⟨#[]⟩) [], .mk (tk 13 ⟨#[]⟩) [], .mk (tk 9 ⟨#[42]⟩) [], .mk (tk 16 ⟨#[]⟩) [], .mk (tk 2 ⟨#[110, 111, 116]⟩) [.mk (tk 1 ⟨#[97]⟩) []]]
theorem doc_len : (toks (runesZ docS)).length = 13 := by kernel_rfl
theorem doc_vals : valsS docS = docV := by kernel_rfl
def s1 (k : Int) (s : ByteArray) : S6 := ⟨k, s, 0, ⟨#[]⟩, 0, 0⟩
def docC : List Cx := [.mk [[(s1 1 ⟨#[97]⟩, []), (s1 2 ⟨#[98]⟩, [])]] [], .mk [[(s1 1 ⟨#[99]⟩, [])]] [], .mk [[(s1 1 ⟨#[42]⟩, []), (s1 5 ⟨#[]⟩, [.mk [[(s1 1 ⟨#[97]⟩, [])]] []])]] []]
theorem doc_parse : parseZ docV = some docC := by kernel_rfl
end Go.Proofs.YtdgkhpkgjkpmnaaGreatDoor.L
