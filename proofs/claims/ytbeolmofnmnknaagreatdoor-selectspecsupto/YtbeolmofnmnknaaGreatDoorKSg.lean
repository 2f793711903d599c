/- selector.Text. The example of layer 5. The document's Weight of selectors. Are selectors more than are looked at? The law SelectSpecs. Selectors that came in as an argument, and their bulk. The table of signs, as it is laid. -/
import Derived.Test.YtbeolmofnmnknaaGreatDoorYSomeW
import Derived.Test.YtbeolmofnmnknaaGreatDoorToks
import Derived.Test.YtbeolmofnmnknaaGreatDoorYValuesV
import Derived.Test.YtbeolmofnmnknaaGreatDoorLPm
import Derived.Test.YtbeolmofnmnknaaGreatDoorLMz
import Derived.ProofKit
import Derived.OpenShut
import Derived.LaidMore
import Derived.Lib.LaidTab
import Derived.FnData
namespace Go.Proofs.YtbeolmofnmnknaaGreatDoor.L
open Go.RowKit
set_option maxRecDepth 100000

theorem charsFrom_len (s : ByteArray) : ∀ (f pos : Nat), (charsFrom s f pos).length ≤ f
  | 0, _ => by simp [charsFrom]
  | f + 1, pos => by
    rw [charsFrom]
    split
    · have := charsFrom_len s f (pos + (Utf8.decode s pos).2)
      simp only [List.length_cons]
      omega
    · simp
theorem norm_len : ∀ (l : List Int) (last : Int), (normZ last l).length ≤ l.length
  | [], last => by simp [normZ]
  | c :: r, last => by
    have h1 := norm_len r c
    rw [normZ]
    split
    · simp only [List.length_cons]; omega
    · simp only [List.length_cons]; omega
theorem runes_len (s : ByteArray) : (runesZ s).length ≤ s.size := Nat.le_trans (norm_len _ _) (charsFrom_len s _ _)
theorem runes_fine (s : ByteArray) (hs : s.size ≤ 1000000000) : Fine (runesZ s) := ⟨Nat.le_trans (runes_len s) hs, fun c hc => (runes_told s c hc).1⟩
def toT5 (t : Tok) : T5 := ⟨t.kind, strT t.text, strT t.unit, t.whole, t.flag⟩
/-- The values of a text. -/
def valsS (s : ByteArray) : List V := Y.valsZ ((toks (runesZ s)).map toT5)
theorem toks_at : ∀ {ts : List Tok} {i : Nat} (h : i < ts.length) (j : Nat) (y : Value), (t5Cells (toT5 (ts[i]'h)))[j]? = some y → (ts.flatMap tokCells)[i * 5 + j]? = some y
  | t :: r, 0, _, j, y, hy => by
    have hy : (tokCells t)[j]? = some y := hy
    rw [List.flatMap_cons, Nat.zero_mul, Nat.zero_add, List.getElem?_append_left (List.getElem?_eq_some_iff.1 hy).1]
    exact hy
  | t :: r, i + 1, h, j, y, hy => by
    have hl : (tokCells t).length = 5 := rfl
    rw [List.flatMap_cons, List.getElem?_append_right (by omega), hl, show (i + 1) * 5 + j - 5 = i * 5 + j by omega]
    exact toks_at (ts := r) (i := i) (by simpa using h) j y hy
theorem outs_ts {B : Nat} {w : World} {out : Value} {ts : List Tok} (h : Outs B w out ts) : Y.TsAt w out (ts.map toT5) := by
  have hl : (ts.map toT5).length = ts.length := List.length_map ..
  rcases h.2 with ⟨rfl, e⟩ | ⟨g, cap, cur, rfl, h1, h2, h3, h4, h5, h6⟩
  · exact ⟨none, 0, by rw [hl, e], by rw [hl, e]; exact Nat.le_refl _, by decide, fun h0 => by rw [hl, e] at h0; omega⟩
  · refine ⟨_, cap, by rw [hl], by rw [hl]; exact h3, h4, fun _ => ⟨g, 0, rfl, (Array.getElem?_eq_some_iff.1 h2).1, fun i hi j y hy => ?_⟩⟩
    have hi' : i < ts.length := by rw [← hl]; exact hi
    rw [List.getElem_map] at hy
    have h7 := own_news h (i * 5 + j) y (toks_at hi' j y hy)
    rw [Addr.add_mid] at h7
    rw [Nat.add_assoc]
    exact h7
/-- What Text answers. -/
def TxPost (W : World) (R : Option (List Cx)) (e : Ending) (w' : World) : Prop := match R with
  | none => e = .returned (.tuple #[.slice none 0 0, .int .i64 4]) ∧ Below W.heap.size W w'
  | some l => ∃ u, e = .returned (.tuple #[u, .int .i64 0]) ∧ ClAt w' u l ∧ Below W.heap.size W w'

set_option maxHeartbeats 1000000 in
theorem text_any (s : ByteArray) (W : World) (hsg : Signs W) (hs : s.size ≤ 65536) (hn : (toks (runesZ s)).length ≤ 100000) (hf : Fit (valsS s)) (hc : cntL (valsS s) ≤ 500000) :
    Calls Tryz.prog 11 #[.string s] W (TxPost W (parseZ (valsS s))) := by
  obtain ⟨g, cap, W1, hcv, hcap, hg, hcell, _, hB⟩ := bytesOf s W
  have hba : BytesAt W1 (.slice (some ⟨g, 0, none⟩) s.size cap) s := ⟨_, _, rfl, hcap, fun _ => ⟨g, 0, rfl, fun j hj => by simpa using hcell j hj⟩⟩
  have hru := runes_any _ s W1 (by omega) hba
  have HFI := hid_mk (runes_fine s (by omega))
  have HSG : Hid (∀ w, Below W.heap.size W w → Signs w) := fun w h => hsg.keep h
  have HF := hid_mk hf
  have HC := hid_mk hc
  have HNN := hid_mk hn
  have hd : decide ((65536 : Int) < (s.size : Int)) = false := decide_eq_false (by omega)
  have hd2 : ¬ ((65536 : Int) < (s.size : Int)) := by omega
  have HVS : Hid (valsS s = Y.valsZ ((toks (runesZ s)).map toT5)) := rfl
  generalize valsS s = vs at *
  have HB := hid_mk hB
  clear hcell hba hf hc hsg hB hn
  go_enter Tryz.func11, Tryz.ntmps11
  go_wp2_with (go_at_call 17; fail)
  refine hru.mono ?_
  rintro e w2 ⟨u, rfl, hown, hb2⟩
  have hrow := RowAt.own hown
  obtain ⟨a, c2, hu⟩ : ∃ a c2, u = .slice a (runesZ s).length c2 := by
    rcases hown.2 with ⟨hv, hz⟩ | ⟨g2, c2, cur, hv, _⟩
    · exact ⟨none, 0, by rw [hv, hz]⟩
    · exact ⟨_, c2, hv⟩
  have hlow : ∀ ad, a = some ad → ad.block < w2.heap.size := by
    intro ad e
    rcases hown.2 with ⟨hv, _⟩ | ⟨g2, c3, cur, hv, _, hg2, _⟩
    · rw [hv, e] at hu; cases hu
    · rw [hv, e] at hu
      cases hu
      exact (Array.getElem?_eq_some_iff.1 hg2).1
  subst hu
  have ht := tokens_any a c2 (runesZ s) w2 HFI.out hrow hlow
  have HB2 : Hid (Below W.heap.size W w2) := HB.out.trans (hb2.mono HB.out.size)
  generalize runesZ s = xs at *
  clear hru hown hrow hlow hb2 HB
  go_wp2_with (go_at_call 16; fail)
  refine ht.mono ?_
  rintro e w3 ⟨out, rfl, ho, hb3⟩
  have hvl := Y.values_any (outs_ts ho) (by rw [List.length_map]; exact HNN.out)
  rw [← HVS.out] at hvl
  have HB3 : Hid (Below W.heap.size W w3) := HB2.out.trans (hb3.mono HB2.out.size)
  obtain ⟨oa, on, oc, rfl⟩ := own_sl ho
  clear ht ho hb3
  go_wp2_with (go_at_call 15; fail)
  refine hvl.mono ?_
  rintro e w4 ⟨vo, rfl, hvo, hb4⟩
  have hB4 : Below W.heap.size W w4 := HB3.out.trans (hb4.mono HB3.out.size)
  have hpa := parse_any hvo (HSG.out w4 hB4) HF.out HC.out
  obtain ⟨va, vc, rfl, _, _⟩ := hvo.slice
  have HB4 := hid_mk hB4
  generalize parseZ vs = R at *
  clear hvl hvo hb4 hB4
  go_wp2_with (go_at_call 14; fail)
  refine hpa.mono ?_
  rintro e w5 hq
  cases R with
  | none =>
    obtain ⟨rfl, hb5⟩ := hq
    have HB5 : Hid (Below W.heap.size W w5) := HB4.out.trans (hb5.mono HB4.out.size)
    clear hpa hb5
    go_wp2
    go_ret2
    exact ⟨rfl, HB5.out⟩
  | some l =>
    obtain ⟨u, rfl, hcl, hb5⟩ := hq
    have HB5 : Hid (Below W.heap.size W w5) := HB4.out.trans (hb5.mono HB4.out.size)
    have HCL := hid_mk hcl
    have hsl : ∃ ua un uc, u = .slice ua un uc := by
      obtain ⟨_, _, ⟨a, c, e, _⟩, _⟩ := hcl.at
      exact ⟨_, _, _, e⟩
    obtain ⟨ua, un, uc, rfl⟩ := hsl
    clear hpa hb5 hcl
    go_wp2
    go_ret2
    exact ⟨_, rfl, HCL.out, HB5.out⟩
end Go.Proofs.YtbeolmofnmnknaaGreatDoor.L
namespace Go.Proofs.YtbeolmofnmnknaaGreatDoor.L
open Go.RowKit
set_option maxRecDepth 100000

/-- Fit, by looking. -/
def fitD : Nat → List V → Bool
  | 0, _ => false
  | d + 1, l => decide (l.length ≤ 100000) && l.all fun v => decide (v.tok.tx.size + v.tok.un.size ≤ 2000000) && fitD d v.kids
theorem fit_of : ∀ (d : Nat) (l : List V), fitD d l = true → Fit l
  | 0, _, h => by cases h
  | d + 1, l, h => by
    unfold fitD at h
    rw [Bool.and_eq_true, List.all_eq_true] at h
    refine .mk l (of_decide_eq_true h.1) (fun v hv => ?_) fun v hv => ?_
    · have := h.2 v hv
      rw [Bool.and_eq_true] at this
      exact of_decide_eq_true this.1
    · have := h.2 v hv
      rw [Bool.and_eq_true] at this
      exact fit_of d _ this.2
def exA : ByteArray := ⟨#[97, 35, 98, 32, 62, 32, 46, 99, 58, 110, 111, 116, 40, 100, 41]⟩
def exB : ByteArray := ⟨#[58, 110, 116, 104, 45, 99, 104, 105, 108, 100, 40, 111, 100, 100, 41]⟩
def exC : ByteArray := ⟨#[97, 44, 44, 98]⟩
def ex1 (k : Int) (s : ByteArray) : S6 := ⟨k, s, 0, ⟨#[]⟩, 0, 0⟩
def exAC : List Cx := [.mk [[(ex1 1 ⟨#[97]⟩, []), (ex1 3 ⟨#[98]⟩, [])], [(ex1 2 ⟨#[99]⟩, []), (ex1 5 ⟨#[]⟩, [.mk [[(ex1 1 ⟨#[100]⟩, [])]] []])]] [2]]
def exBC : List Cx := [.mk [[(⟨8, ⟨#[]⟩, 0, ⟨#[]⟩, 2, 1⟩, [])]] []]
theorem exA_len : decide ((toks (runesZ exA)).length ≤ 100000) = true := by kernel_rfl
theorem exB_len : decide ((toks (runesZ exB)).length ≤ 100000) = true := by kernel_rfl
theorem exC_len : decide ((toks (runesZ exC)).length ≤ 100000) = true := by kernel_rfl
theorem exA_fit : fitD 4 (valsS exA) = true := by kernel_rfl
theorem exB_fit : fitD 4 (valsS exB) = true := by kernel_rfl
theorem exC_fit : fitD 4 (valsS exC) = true := by kernel_rfl
theorem exA_cnt : decide (cntL (valsS exA) ≤ 500000) = true := by kernel_rfl
theorem exB_cnt : decide (cntL (valsS exB) ≤ 500000) = true := by kernel_rfl
theorem exC_cnt : decide (cntL (valsS exC) ≤ 500000) = true := by kernel_rfl
theorem exA_parse : parseZ (valsS exA) = some exAC := by kernel_rfl
theorem exB_parse : parseZ (valsS exB) = some exBC := by kernel_rfl
theorem exC_parse : parseZ (valsS exC) = none := by kernel_rfl
theorem exA_most : mostZ exAC = ⟨1, 1, 2⟩ := by kernel_rfl
theorem exA_sz : szZ exAC = 2 := by kernel_rfl
theorem text_A (W : World) (hsg : Signs W) : Calls Tryz.prog 11 #[.string exA] W (TxPost W (some exAC)) := by
  rw [← exA_parse]
  exact text_any exA W hsg (by decide) (of_decide_eq_true exA_len) (fit_of _ _ exA_fit) (of_decide_eq_true exA_cnt)
theorem text_B (W : World) (hsg : Signs W) : Calls Tryz.prog 11 #[.string exB] W (TxPost W (some exBC)) := by
  rw [← exB_parse]
  exact text_any exB W hsg (by decide) (of_decide_eq_true exB_len) (fit_of _ _ exB_fit) (of_decide_eq_true exB_cnt)
theorem text_C (W : World) (hsg : Signs W) : Calls Tryz.prog 11 #[.string exC] W (TxPost W none) := by
  rw [← exC_parse]
  exact text_any exC W hsg (by decide) (of_decide_eq_true exC_len) (fit_of _ _ exC_fit) (of_decide_eq_true exC_cnt)

set_option maxHeartbeats 1000000 in
theorem lives_any (W : World) (hsg : Signs W) : Calls Tryz.prog 5 #[] W fun e w' => e = .returned (.bool true) ∧ Below W.heap.size W w' := by
  have hA := text_A W hsg
  have HB0 : Hid (∀ w, Below W.heap.size W w → Calls Tryz.prog 11 #[.string exB] w (TxPost w (some exBC))) := fun w h => text_B w (hsg.keep h)
  have HC0 : Hid (∀ w, Below W.heap.size W w → Calls Tryz.prog 11 #[.string exC] w (TxPost w none)) := fun w h => text_C w (hsg.keep h)
  unfold exA at hA
  clear hsg
  go_enter Tryz.func5, Tryz.ntmps5
  go_wp2_with (go_at_call 11; fail)
  refine hA.mono ?_
  rintro e w1 ⟨u, rfl, hcl, hB1⟩
  have hb := HB0.out w1 hB1
  unfold exB at hb
  obtain ⟨b, off, ⟨a, cap, rfl, hc1, hc2, hsa⟩, hat⟩ := hcl.at
  obtain ⟨rfl, hbw⟩ := hsa (by decide)
  obtain ⟨p0, v0, bc0, oc0, bp0, op0, qv0, bq0, oq0, lv0, a0, b0, cx0⟩ := hat 0 (by decide)
  have HOF : Hid (∀ w, Below w1.heap.size w1 w → Calls Tryz.prog 9 #[.agg #[p0, v0]] w fun e w' => e = .returned (mostZ exAC).v ∧ Below w.heap.size w w') := fun w hw => of_any (c := exAC[0]) (cx0.keep hw) (by rw [show [exAC[0]] = exAC from rfl, exA_sz]; decide)
  obtain ⟨pa0, pc0, hp0, _⟩ := cx0.ps
  obtain ⟨ca0, cc0, hv0, _⟩ := cx0.cs
  have HB1 := hid_mk hB1
  simp only [Nat.zero_mul, Nat.add_zero] at a0 b0
  rw [show exAC.length = 1 from rfl] at *
  clear hA hcl hsa hat cx0 hB1 HB0
  go_wp2_with (go_at_call 11; fail)
  refine hb.mono ?_
  rintro e w2 ⟨u2, rfl, hcl2, hB2⟩
  have hB2' : Below W.heap.size W w2 := HB1.out.trans (hB2.mono HB1.out.size)
  have hcc := HC0.out w2 hB2'
  unfold exC at hcc
  have HB2 := hid_mk hB2
  have HB2' := hid_mk hB2'
  have HCL2 := hid_mk hcl2
  obtain ⟨b2, off2, ⟨a2, cap2, rfl, hd1, hd2, hsa2⟩, hat2⟩ := hcl2.at
  obtain ⟨rfl, hbw2⟩ := hsa2 (by decide)
  rw [show exBC.length = 1 from rfl] at *
  clear hb hcl2 hsa2 hat2 hB2 hB2' HC0
  go_wp2_with (go_at_call 11; fail)
  refine hcc.mono ?_
  rintro e w3 ⟨rfl, hB3⟩
  have hB13 : Below w1.heap.size w1 w3 := HB2.out.trans (hB3.mono HB2.out.size)
  have hof := HOF.out w3 hB13
  rw [exA_most] at hof
  unfold S3.v at hof
  have c0 := (hB13.cell (p := ⟨b, off, none⟩) hbw).trans a0
  have c1 := (hB13.cell (p := ⟨b, off + 1, none⟩) hbw).trans b0
  have HB3 := hid_mk hB3
  subst hp0 hv0
  clear hcc hB3 HB1 HB2 hB13 a0 b0 HOF
  go_wp2_with (go_at_call 9; fail)
  refine hof.mono ?_
  rintro e w4 ⟨rfl, hB4⟩
  have hB24 : Below w2.heap.size w2 w4 := HB3.out.trans (hB4.mono HB3.out.size)
  have HBW4 : Hid (Below W.heap.size W w4) := HB2'.out.trans (hB24.mono HB2'.out.size)
  obtain ⟨b3, off3, ⟨a3, cap3, he3, hd3, hd4, hsa3⟩, hat3⟩ := (HCL2.out.keep hB24).at
  obtain ⟨rfl, hbw3⟩ := hsa3 (by decide)
  obtain ⟨p1, v1, _, _, bp1, op1, qv1, bq1, oq1, lv1, a1, b1, cx1⟩ := hat3 0 (by decide)
  obtain ⟨hb3, ho3⟩ : b2 = b3 ∧ off2 = off3 := by
    cases he3
    exact ⟨rfl, rfl⟩
  subst hb3 ho3
  obtain ⟨pa1, pc1, rfl, hpn, hpm, hpa⟩ := cx1.ps
  obtain ⟨rfl, _⟩ := hpa (by decide)
  have q0 := cx1.pc 0 (by decide)
  obtain ⟨qa1, qc1, hq1, hqn, hqm, hqa⟩ := cx1.qs 0 (by decide)
  obtain ⟨rfl, _⟩ := hqa (by decide)
  rw [hq1] at q0
  have r4 := cx1.qc 0 (by decide) 0 (by decide) 4 _ rfl
  have r5 := cx1.qc 0 (by decide) 0 (by decide) 5 _ rfl
  simp only [Nat.zero_mul, Nat.add_zero] at a1 b1 q0 r4 r5
  have hl1 : (exBC[0]'(by decide)).parts.length = 1 := rfl
  have hl2 : ((exBC[0]'(by decide)).parts[0]'(by decide)).length = 1 := rfl
  have hl4 : (((exBC[0]'(by decide)).parts[0]'(by decide))[0]'(by decide)).1.a = 2 := rfl
  have hl5 : (((exBC[0]'(by decide)).parts[0]'(by decide))[0]'(by decide)).1.b = 1 := rfl
  rw [hl1] at a1
  rw [hl2] at q0
  rw [hl4] at r4
  rw [hl5] at r5
  clear hof hB4 hB24 HB2' HB3 HCL2 hat3 hsa3 he3 cx1 hpa hqa hq1 hl1 hl2 hl4 hl5 hpn hpm hqn hqm c0 c1
  go_wp2
  go_ret
  exact ⟨rfl, HBW4.out⟩
end Go.Proofs.YtbeolmofnmnknaaGreatDoor.L
namespace Go.Proofs.YtbeolmofnmnknaaGreatDoor.L
open Go.RowKit
set_option maxRecDepth 100000

theorem sum_mono {α : Type} {f g : α → Nat} (h : ∀ x, f x ≤ g x) : ∀ l : List α, (l.map f).sum ≤ (l.map g).sum
  | [] => Nat.le_refl _
  | x :: l => by
    simp only [List.map_cons, List.sum_cons]
    have := h x
    have := sum_mono h l
    omega
theorem wtS_mono {f g : List Cx → Nat} (h : ∀ l, f l ≤ g l) (x : S6 × List Cx) : wtS f x ≤ wtS g x := by unfold wtS; have := h x.2; omega
theorem wtP_mono {f g : List Cx → Nat} (h : ∀ l, f l ≤ g l) (p : List (S6 × List Cx)) : wtP f p ≤ wtP g p := by unfold wtP; have := sum_mono (wtS_mono h) p; omega
theorem wtC_mono {f g : List Cx → Nat} (h : ∀ l, f l ≤ g l) (c : Cx) : wtC f c ≤ wtC g c := by unfold wtC; have := sum_mono (wtP_mono h) c.parts; omega
theorem wt_succ : ∀ d l, wt d l ≤ wt (d + 1) l
  | 0, _ => Nat.zero_le _
  | d + 1, l => sum_mono (wtC_mono (wt_succ d)) l
theorem wt_le {d d' : Nat} (h : d ≤ d') (l : List Cx) : wt d l ≤ wt d' l := by
  induction h with
  | refl => exact Nat.le_refl _
  | step _ ih => exact Nat.le_trans ih (wt_succ _ l)
theorem mem_sum {α : Type} (f : α → Nat) {l : List α} {i : Nat} (h : i < l.length) : f l[i] ≤ (l.map f).sum := by
  have h1 := sum_take f h
  have h2 := sum_take_le f l (i + 1)
  omega
/-- Ahead of the i-th complex one; ahead of its j-th Part; ahead of that one's t-th. -/
def wA (l : List Cx) (i d : Nat) : Nat := ((l.take i).map (wtC (wt d))).sum
def wB (c : Cx) (j d : Nat) : Nat := 1 + c.combs.length + ((c.parts.take j).map (wtP (wt d))).sum
def wE (p : List (S6 × List Cx)) (t d : Nat) : Nat := 1 + ((p.take t).map (wtS (wt d))).sum
theorem wA_mono (l : List Cx) (i : Nat) {d d' : Nat} (h : d ≤ d') : wA l i d ≤ wA l i d' := sum_mono (wtC_mono (wt_le h)) _
theorem wB_mono (c : Cx) (j : Nat) {d d' : Nat} (h : d ≤ d') : wB c j d ≤ wB c j d' := by
  unfold wB; have := sum_mono (wtP_mono (wt_le h)) (c.parts.take j); omega
theorem wE_mono (p : List (S6 × List Cx)) (t : Nat) {d d' : Nat} (h : d ≤ d') : wE p t d ≤ wE p t d' := by
  unfold wE; have := sum_mono (wtS_mono (wt_le h)) (p.take t); omega
theorem wA_succ {l : List Cx} {i : Nat} (h : i < l.length) (d : Nat) : wA l (i + 1) d = wA l i d + wB l[i] l[i].parts.length d := by
  unfold wA wB
  rw [sum_take _ h, List.take_length]
  rfl
theorem wB_succ {c : Cx} {j : Nat} (h : j < c.parts.length) (d : Nat) : wB c (j + 1) d = wB c j d + wE c.parts[j] c.parts[j].length d := by
  unfold wB wE
  rw [sum_take _ h, List.take_length]
  show _ = _ + wtP (wt d) c.parts[j]
  omega
theorem wE_succ {p : List (S6 × List Cx)} {t : Nat} (h : t < p.length) (d : Nat) : wE p (t + 1) d = wE p t d + (1 + (p[t].1.nm.size + p[t].1.v.size) / 20 + wt d p[t].2) := by
  unfold wE
  rw [sum_take _ h]
  show _ = _ + wtS (wt d) p[t]
  omega
theorem wB_le (c : Cx) (j d : Nat) : wB c j d ≤ wB c c.parts.length d := by
  unfold wB; have := sum_take_le (wtP (wt d)) c.parts j; rw [List.take_length]; omega
theorem wE_le (p : List (S6 × List Cx)) (t d : Nat) : wE p t d ≤ wE p p.length d := by
  unfold wE; have := sum_take_le (wtS (wt d)) p t; rw [List.take_length]; omega
theorem wA_le (l : List Cx) (i d : Nat) : wA l i d ≤ wt (d + 1) l := sum_take_le _ l i
theorem wA_all (l : List Cx) (d : Nat) : wA l l.length d = wt (d + 1) l := by unfold wA; rw [List.take_length]; rfl
/-- All that lies ahead of a simple one, with it, is within the whole. -/
theorem within_all {l : List Cx} {i j t : Nat} (hi : i < l.length) (hj : j < l[i].parts.length) (_ : t < l[i].parts[j].length) (d : Nat) : wA l i d + wB l[i] j d + wE l[i].parts[j] (t + 1) d ≤ wt (d + 1) l := by
  have h1 := wE_le l[i].parts[j] (t + 1) d
  have h2 := wB_succ hj d
  have h3 := wB_le l[i] (j + 1) d
  have h4 := wA_succ hi d
  have h5 := wA_le l (i + 1) d
  omega
theorem within_part {l : List Cx} {i j : Nat} (hi : i < l.length) (hj : j < l[i].parts.length) (t d : Nat) : wA l i d + wB l[i] j d + wE l[i].parts[j] t d ≤ wt (d + 1) l := by
  have h1 := wE_le l[i].parts[j] t d
  have h2 := wB_succ hj d
  have h3 := wB_le l[i] (j + 1) d
  have h4 := wA_succ hi d
  have h5 := wA_le l (i + 1) d
  omega
theorem within_cx {l : List Cx} {i : Nat} (hi : i < l.length) (j d : Nat) : wA l i d + wB l[i] j d ≤ wt (d + 1) l := by
  have h3 := wB_le l[i] j d
  have h4 := wA_succ hi d
  have h5 := wA_le l (i + 1) d
  omega
/-- What Weight answers. -/
def WtP (most : Int) (l : List Cx) (W : World) (e : Ending) (w' : World) : Prop := ∃ r : Nat, e = .returned (.int .i64 (r : Int)) ∧ (∃ d, r ≤ wt d l) ∧ ((r : Int) ≤ most → ∀ d, wt d l ≤ r) ∧ Below W.heap.size W w'
/-- What the walk knows between the rounds. -/
def NB (most : Int) (n : Nat) (X : Nat → Nat) : Prop := (∃ d, n ≤ X d) ∧ ((n : Int) ≤ most → ∀ d, X d ≤ n)
set_option maxHeartbeats 8000000 in
theorem weight_any {W : World} {v : Value} {l : List Cx} (h : ClAt W v l) : ∀ (most : Int) (_ : 0 ≤ most) (_ : most ≤ 1000000) (_ : ∀ d, wt d l ≤ 10000000) (w : World) (_ : Below W.heap.size W w), Calls Tryz.prog 10 #[v, .int .i64 most] w (WtP most l w) := by
  induction h with
  | mk v l b off pv cv bc oc bp op qv bq oq lv hs hc h1 h2 h3 h4 h5 h6 hr ih =>
    intro most hm0 hm1 hb w hW
    have HAT : Hid (∀ w', Below w.heap.size w w' → ∀ i (hi : i < l.length), w'.cell? ⟨b, off + i * 2, none⟩ = some (pv i) ∧ w'.cell? ⟨b, off + i * 2 + 1, none⟩ = some (cv i)) := fun w' hw' i hi => by
      have hB := hW.trans (hw'.mono hW.size)
      rw [hs.cell hB (by omega), hs.cell hB (by omega)]
      exact hc i hi
    have HPC : Hid (∀ w', Below w.heap.size w w' → ∀ i (hi : i < l.length) j, j < l[i].parts.length → w'.cell? ⟨bp i, op i + j, none⟩ = some (qv i j)) := fun w' hw' i hi j hj => by
      rw [(h3 i hi).cell (hW.trans (hw'.mono hW.size)) (by omega)]
      exact h4 i hi j hj
    have HQC : Hid (∀ w', Below w.heap.size w w' → ∀ i (hi : i < l.length) j (hj : j < l[i].parts.length) t (ht : t < l[i].parts[j].length), ∀ y u, (s7 l[i].parts[j][t].1 (lv i j t))[y]? = some u → w'.cell? ⟨bq i j, oq i j + t * 7 + y, none⟩ = some u) := fun w' hw' i hi j hj t ht y u hu => by
      rw [(h5 i hi j hj).cell (hW.trans (hw'.mono hW.size)) (by omega)]
      exact h6 i hi j hj t ht y u hu
    have HLS : Hid (∀ i (hi : i < l.length) j (hj : j < l[i].parts.length) t (ht : t < l[i].parts[j].length), ∃ la ln lc, lv i j t = .slice la ln lc) := fun i hi j hj t ht => by
      obtain ⟨_, _, ⟨la, lc, e, _⟩, _⟩ := (hr i hi j hj t ht).at
      exact ⟨la, _, lc, e⟩
    have HIH : Hid (∀ w', Below w.heap.size w w' → ∀ i (hi : i < l.length) j (hj : j < l[i].parts.length) t (ht : t < l[i].parts[j].length), Calls Tryz.prog 10 #[lv i j t, .int .i64 most] w' (WtP most l[i].parts[j][t].2 w')) := fun w' hw' i hi j hj t ht => ih i hi j hj t ht most hm0 hm1 (fun d => by
      have q1 := within_all hi hj ht d
      have q2 := wE_succ ht d
      have q3 := hb (d + 1)
      omega) w' (hW.trans (hw'.mono hW.size))
    have HB := hid_mk hb
    have H3 := hid_mk h3
    have H1 := hid_mk h1
    have H5 := hid_mk h5
    obtain ⟨a, cap, rfl, hcn, hcm, hsa⟩ := hs
    have hln : l.length ≤ 9223372036854775807 := by omega
    have HSA := hid_mk hsa
    have HBW := hid_mk (Below.refl w.heap.size w)
    clear hc h1 h2 h3 h4 h5 h6 hr ih hb hsa
    go_enter Tryz.func10, Tryz.ntmps10
    go_wp2
    go_loopw [5, 14] (fun a5 a14 wq => ∃ i n : Nat, i ≤ l.length ∧ n ≤ 10000000 ∧ a5 = .int .i64 (n : Int) ∧ a14 = .int .i64 (i : Int) ∧ Hid (NB most n (wA l i)) ∧ Hid (Below w.heap.size w wq)) (fun _ a14 _ => l.length + 1 - (intOf a14).toNat)
    case atStart => exact ⟨0, 0, Nat.zero_le _, Nat.zero_le _, rfl, rfl, ⟨⟨0, Nat.zero_le _⟩, fun _ d => by simp [wA]⟩, HBW⟩
    case round =>
      obtain ⟨i, n, hi, hn, rfl, rfl, HN, HBi⟩ := hrel
      by_cases hil : i < l.length
      · obtain ⟨rfl, _⟩ := HSA.out (by omega)
        obtain ⟨q1, q2⟩ := HAT.out wr HBi.out i hil
        obtain ⟨pa, pc, e1, hpn, hpm, hpa⟩ := H3.out i hil
        obtain ⟨ca, cc, e2, hkn, hkm, _⟩ := H1.out i hil
        rw [e1] at q1
        rw [e2] at q2
        have hcx := within_cx hil 0 0
        have hbt := HB.out (0 + 1)
        have hkl : l[i].combs.length ≤ 10000000 := by unfold wB at hcx; omega
        have HNC : Hid (NB most (n + (1 + l[i].combs.length)) (fun d => wA l i d + wB l[i] 0 d)) := by
          obtain ⟨⟨d, hd⟩, hall⟩ := HN.out
          refine ⟨⟨d, ?_⟩, fun hle d => ?_⟩
          · unfold wB; simp; omega
          · have := hall (by omega) d; unfold wB; simp; omega
        have hn2 : n + (1 + l[i].combs.length) ≤ 10000000 := by
          obtain ⟨⟨d, hd⟩, _⟩ := HNC.out
          dsimp only at hd
          have q3 := within_cx hil 0 d
          have q4 := HB.out (d + 1)
          omega
        have HPA := hid_mk hpa
        clear hcx hbt hpa e1 e2 HN
        obtain ⟨c, hcd⟩ : ∃ c, c = l[i] := ⟨_, rfl⟩
        have HCD := hid_mk hcd
        obtain ⟨w1, hw1⟩ : ∃ w1, w1 = wr.alloc (.cells #[.slice pa l[i].parts.length pc, .slice ca l[i].combs.length cc] 26) := ⟨_, rfl⟩
        have hB1 : Below wr.heap.size wr w1 := by rw [hw1]; exact (Below.refl _ _).alloc (Nat.le_refl _) _
        have hx1 : w1.heap[wr.heap.size]? = some (.cells #[.slice pa l[i].parts.length pc, .slice ca l[i].combs.length cc] 26 (0, 0)) := by rw [hw1]; exact heap_alloc_last wr _
        have x0 : w1.cell? ⟨wr.heap.size, 0, none⟩ = some (.slice pa l[i].parts.length pc) := cellAt hx1 0
        have x1 : w1.cell? ⟨wr.heap.size, 1, none⟩ = some (.slice ca l[i].combs.length cc) := cellAt hx1 1
        have HB1 := hid_mk (HBi.out.trans (hB1.mono HBi.out.size))
        have HW1 := hid_mk hw1
        have hpl : l[i].parts.length ≤ 9223372036854775807 := by omega
        obtain ⟨n2, hn2e⟩ : ∃ n2, n2 = n + (1 + l[i].combs.length) := ⟨_, rfl⟩
        rw [← hn2e] at HNC hn2
        have hadd : (n : Int) + (1 + (l[i].combs.length : Int)) = (n2 : Int) := by omega
        clear hcd hw1 hB1 hx1 hn2e
        go_upto_region 5 with (fail)
        rw [← HW1.out]
        clear HW1 q1 q2
        go_wp2
        clear x0 x1
        go_loopw [5, 27] (fun a5 a27 wq => ∃ j m : Nat, j ≤ l[i].parts.length ∧ m ≤ 10000000 ∧ a5 = .int .i64 (m : Int) ∧ a27 = .int .i64 (j : Int) ∧ Hid (NB most m (fun d => wA l i d + wB l[i] j d)) ∧ Hid (Below w.heap.size w wq)) (fun _ a27 _ => l[i].parts.length + 1 - (intOf a27).toNat)
        case atStart => exact ⟨0, n2, Nat.zero_le _, hn2, rfl, rfl, HNC, HB1⟩
        case round =>
          obtain ⟨j, m, hj, hmm, rfl, rfl, HNj, HBj⟩ := hrel
          clear HNC HB1
          by_cases hjl : j < l[i].parts.length
          · obtain ⟨rfl, _⟩ := HPA.out (by omega)
            have q3 := HPC.out wr HBj.out i hil j hjl
            obtain ⟨qa, qc, e3, hqn, hqm, hqa⟩ := H5.out i hil j hjl
            rw [e3] at q3
            have HNP : Hid (NB most (m + 1) (fun d => wA l i d + wB l[i] j d + wE l[i].parts[j] 0 d)) := by
              obtain ⟨⟨d, hd⟩, hall⟩ := HNj.out
              dsimp only at hd hall
              refine ⟨⟨d, ?_⟩, fun hle d => ?_⟩
              · unfold wE; simp; omega
              · have := hall (by omega) d; unfold wE; simp; omega
            have hm2 : m + 1 ≤ 10000000 := by
              obtain ⟨⟨d, hd⟩, _⟩ := HNP.out
              dsimp only at hd
              have q4 := within_part hil hjl 0 d
              have q5 := HB.out (d + 1)
              omega
            have HQA := hid_mk hqa
            have hql : l[i].parts[j].length ≤ 9223372036854775807 := by omega
            clear e3 hqa HNj
            go_wp2
            clear q3
            go_loopw [5, 35] (fun a5 a35 wq => ∃ t k : Nat, t ≤ l[i].parts[j].length ∧ k ≤ 10000000 ∧ a5 = .int .i64 (k : Int) ∧ a35 = .int .i64 (t : Int) ∧ Hid (NB most k (fun d => wA l i d + wB l[i] j d + wE l[i].parts[j] t d)) ∧ Hid (Below w.heap.size w wq)) (fun _ a35 _ => l[i].parts[j].length + 1 - (intOf a35).toNat)
            case atStart => exact ⟨0, m + 1, Nat.zero_le _, hm2, by go_num, rfl, HNP, HBj⟩
            case round =>
              obtain ⟨t, k, ht, hk, rfl, rfl, HNt, HBt⟩ := hrel
              clear HNP HBj
              by_cases htl : t < l[i].parts[j].length
              · obtain ⟨rfl, _⟩ := HQA.out (by omega)
                have hcell := HQC.out wr HBt.out i hil j hjl t htl
                obtain ⟨la, ln, lc, hlv⟩ := HLS.out i hil j hjl t htl
                have HREC : Hid (∀ w', Below w.heap.size w w' → _) := fun w' hw' => HIH.out w' hw' i hil j hjl t htl
                rw [hlv] at hcell HREC
                have HES : Hid (∀ d, wE l[i].parts[j] (t + 1) d = _) := fun d => wE_succ htl d
                obtain ⟨s, hse⟩ : ∃ s, s = l[i].parts[j][t].1 := ⟨_, rfl⟩
                rw [← hse] at hcell HES
                obtain ⟨L2, hL2⟩ : ∃ L2, L2 = l[i].parts[j][t].2 := ⟨_, rfl⟩
                rw [← hL2] at HREC HES
                have y0 := hcell 0 _ rfl
                have y1 := hcell 1 _ rfl
                have y2 := hcell 2 _ rfl
                have y3 := hcell 3 _ rfl
                have y4 := hcell 4 _ rfl
                have y5 := hcell 5 _ rfl
                have y6 := hcell 6 _ rfl
                rw [Nat.add_zero] at y0
                have HWI : Hid (∀ d, wA l i d + wB l[i] j d + wE l[i].parts[j] (t + 1) d ≤ 10000000 ∧ wA l i d + wB l[i] j d + wE l[i].parts[j] (t + 1) d ≤ wt (d + 1) l) := fun d => by
                  have q4 := within_all hil hjl htl d
                  have q5 := HB.out (d + 1)
                  exact ⟨by omega, q4⟩
                have hsz : s.nm.size + s.v.size ≤ 200000100 := by
                  have q4 := (HWI.out 0).1
                  have q5 := HES.out 0
                  omega
                obtain ⟨q, hq⟩ : ∃ q : Nat, q = (s.nm.size + s.v.size) / 20 := ⟨_, rfl⟩
                have hq1 : ((s.nm.size : Int) + (s.v.size : Int)) / 20 = (q : Int) := by omega
                have hq2 : ((s.nm.size : Int) + (s.v.size : Int)).tdiv 20 = (q : Int) := by rw [Int.tdiv_eq_ediv_of_nonneg (by omega)]; exact hq1
                obtain ⟨k1, hk1⟩ : ∃ k1 : Nat, k1 = k + (1 + q) := ⟨_, rfl⟩
                have hk1i : (k : Int) + (1 + (q : Int)) = (k1 : Int) := by omega
                have HN1 : Hid (∃ d, k1 ≤ wA l i d + wB l[i] j d + wE l[i].parts[j] (t + 1) d) := by
                  obtain ⟨⟨d, hd⟩, _⟩ := HNt.out
                  dsimp only at hd
                  refine ⟨d, ?_⟩
                  rw [HES.out d, ← hq, hk1]
                  omega
                have hk1b : k1 ≤ 10000000 := by
                  obtain ⟨d, hd⟩ := HN1.out
                  have := (HWI.out d).1
                  omega
                have HNA : Hid (∀ r : Nat, (∃ d, r ≤ wt d L2) → k1 + r ≤ 10000000 ∧ ∃ d, k1 + r ≤ wA l i d + wB l[i] j d + wE l[i].parts[j] (t + 1) d) := fun r ⟨d2, hd2⟩ => by
                  obtain ⟨⟨d, hd⟩, _⟩ := HNt.out
                  dsimp only at hd
                  have m1 := wA_mono l i (Nat.le_max_left d d2)
                  have m2 := wB_mono l[i] j (Nat.le_max_left d d2)
                  have m3 := wE_mono l[i].parts[j] t (Nat.le_max_left d d2)
                  have m4 := wt_le (Nat.le_max_right d d2) L2
                  have m5 := HES.out (max d d2)
                  rw [← hq] at m5
                  have m6 := (HWI.out (max d d2)).1
                  exact ⟨by omega, max d d2, by omega⟩
                have HNL : Hid (∀ r : Nat, ((r : Int) ≤ most → ∀ d, wt d L2 ≤ r) → ((k1 + r : Nat) : Int) ≤ most → ∀ d, wA l i d + wB l[i] j d + wE l[i].parts[j] (t + 1) d ≤ k1 + r) := fun r h hle d => by
                  have m1 := HNt.out.2 (by omega) d
                  dsimp only at m1
                  have m5 := HES.out d
                  rw [← hq] at m5
                  have m6 := h (by omega) d
                  omega
                obtain ⟨w2, hw2⟩ : ∃ w2, w2 = wr.alloc (.cells #[.int .i64 s.k, .string s.nm, .int .i64 s.op, .string s.v, .int .i64 s.a, .int .i64 s.b, .slice la ln lc] 36) := ⟨_, rfl⟩
                have hB2 : Below wr.heap.size wr w2 := by rw [hw2]; exact (Below.refl _ _).alloc (Nat.le_refl _) _
                have hx2 : w2.heap[wr.heap.size]? = some (.cells #[.int .i64 s.k, .string s.nm, .int .i64 s.op, .string s.v, .int .i64 s.a, .int .i64 s.b, .slice la ln lc] 36 (0, 0)) := by rw [hw2]; exact heap_alloc_last wr _
                have x1 : w2.cell? ⟨wr.heap.size, 1, none⟩ = some (.string s.nm) := cellAt hx2 1
                have x3 : w2.cell? ⟨wr.heap.size, 3, none⟩ = some (.string s.v) := cellAt hx2 3
                have x6 : w2.cell? ⟨wr.heap.size, 6, none⟩ = some (.slice la ln lc) := cellAt hx2 6
                have HB2 := hid_mk (HBt.out.trans (hB2.mono HBt.out.size))
                have hrec := HREC.out w2 HB2.out
                unfold WtP at hrec
                have HW2 := hid_mk hw2
                have hz1 : s.nm.size ≤ 200000100 := by omega
                have hz2 : s.v.size ≤ 200000100 := by omega
                clear hcell hlv HREC HES hse hL2 hq hk1 hw2 hB2 hx2 HNt HBt hsz
                go_upto_region 13 with (fail)
                rw [← HW2.out]
                clear y0 y1 y2 y3 y4 y5 y6 HW2
                by_cases hgt : most < (k1 : Int)
                · have hd1 : decide (most < (k1 : Int)) = true := decide_eq_true hgt
                  have HNW : Hid (∃ d, k1 ≤ wt d l) := by
                    obtain ⟨d, hd⟩ := HN1.out
                    exact ⟨d + 1, Nat.le_trans hd (HWI.out d).2⟩
                  have HGT := hid_mk hgt
                  clear hgt hrec HNA HNL HN1 HWI HAT HPC HQC HLS HIH HB H3 H1 H5 HSA HPA HQA
                  go_wp2
                  go_ret
                  exact ⟨k1, rfl, HNW.out, fun h => absurd HGT.out (by omega), HB2.out⟩
                · have hd1 : decide (most < (k1 : Int)) = false := decide_eq_false hgt
                  clear hgt
                  go_wp2_with (go_at_call 10; fail)
                  refine hrec.mono ?_
                  rintro e w3 ⟨r, rfl, hr1, hr2, hB3⟩
                  have HB3 := hid_mk (HB2.out.trans (hB3.mono HB2.out.size))
                  obtain ⟨hkr, hex⟩ := HNA.out r hr1
                  have HNE : Hid (NB most (k1 + r) (fun d => wA l i d + wB l[i] j d + wE l[i].parts[j] (t + 1) d)) := ⟨hex, HNL.out r hr2⟩
                  clear hrec hr1 hr2 hB3 hex HNA HNL HN1 HWI HAT HPC HQC HLS HIH HB H3 H1 H5 HSA HPA HQA x1 x3 x6
                  go_wp2
                  exact ⟨⟨t + 1, k1 + r, htl, hkr, by go_num, by go_num, HNE, HB3⟩, by simp only [intOf]; omega⟩
              · obtain rfl : t = l[i].parts[j].length := by omega
                have HNZ : Hid (NB most k (fun d => wA l i d + wB l[i] (j + 1) d)) := by
                  obtain ⟨⟨d, hd⟩, hall⟩ := HNt.out
                  dsimp only at hd hall
                  refine ⟨⟨d, by dsimp only; have := wB_succ hjl d; omega⟩, fun hle d => by dsimp only; have := wB_succ hjl d; have := hall hle d; omega⟩
                clear HAT HPC HQC HLS HIH HB H3 H1 H5 HNt HSA HPA HQA
                go_wp2
                exact ⟨⟨j + 1, k, hjl, hk, rfl, by go_num, HNZ, HBt⟩, by simp only [intOf]; omega⟩
          · obtain rfl : j = l[i].parts.length := by omega
            have HNZ : Hid (NB most m (wA l (i + 1))) := by
              obtain ⟨⟨d, hd⟩, hall⟩ := HNj.out
              dsimp only at hd hall
              refine ⟨⟨d, by have := wA_succ hil d; omega⟩, fun hle d => by have := wA_succ hil d; have := hall hle d; omega⟩
            have HNW : Hid (∃ d, m ≤ wt d l) := by
              obtain ⟨⟨d, hd⟩, _⟩ := HNZ.out
              exact ⟨d + 1, Nat.le_trans hd (wA_le l (i + 1) d)⟩
            clear HAT HPC HQC HLS HIH HB H3 H1 H5 HNj HSA HPA
            by_cases hgt : most < (m : Int)
            · have hd1 : decide (most < (m : Int)) = true := decide_eq_true hgt
              have HGT := hid_mk hgt
              clear hgt
              go_wp2
              go_ret
              exact ⟨m, rfl, HNW.out, fun h => absurd HGT.out (by omega), HBj.out⟩
            · have hd1 : decide (most < (m : Int)) = false := decide_eq_false hgt
              clear hgt
              go_wp2
              exact ⟨⟨i + 1, m, hil, hmm, rfl, by go_num, HNZ, HBj⟩, by simp only [intOf]; omega⟩
      · obtain rfl : i = l.length := by omega
        have HZ : Hid ((∃ d, n ≤ wt d l) ∧ ((n : Int) ≤ most → ∀ d, wt d l ≤ n)) := by
          obtain ⟨⟨d, hd⟩, hall⟩ := HN.out
          refine ⟨⟨d + 1, by rw [← wA_all]; exact hd⟩, fun hle d => ?_⟩
          have := hall hle d
          rw [wA_all] at this
          exact Nat.le_trans (wt_succ d l) this
        clear HAT HPC HQC HLS HIH HB H3 H1 H5 HN HSA
        go_wp2
        go_ret
        exact ⟨n, rfl, HZ.out.1, HZ.out.2, HBi.out⟩
end Go.Proofs.YtbeolmofnmnknaaGreatDoor.L
namespace Go.Proofs.YtbeolmofnmnknaaGreatDoor.L
open Go.RowKit
set_option maxRecDepth 100000

/-- What great answers. -/
def GrP (l : List Cx) (W : World) (e : Ending) (w' : World) : Prop := ∃ g : Bool, e = .returned (.bool g) ∧ (g = false → ∀ d, wt d l ≤ 400) ∧ Below W.heap.size W w'
set_option maxHeartbeats 400000 in
theorem great_any {W : World} {v : Value} {l : List Cx} (h : ClAt W v l) (hb : ∀ d, wt d l ≤ 10000000) : Calls Tryz.prog 4 #[v] W (GrP l W) := by
  have hw := weight_any h 400 (by decide) (by decide) hb W (Below.refl _ _)
  obtain ⟨va, vn, vc, rfl⟩ : ∃ va vn vc, v = .slice va vn vc := by
    obtain ⟨_, _, ⟨a, c, e, _⟩, _⟩ := h.at
    exact ⟨_, _, _, e⟩
  clear h hb
  go_enter Tryz.func4, Tryz.ntmps4
  go_wp2_with (go_at_call 10; fail)
  refine hw.mono ?_
  rintro e w1 ⟨r, rfl, _, hr, hb1⟩
  have HR : Hid (decide ((400 : Int) < (r : Int)) = false → ∀ d, wt d l ≤ 400) := fun hd d => by
    have hd : ¬ (400 : Int) < (r : Int) := by simpa using hd
    have := hr (by omega) d
    omega
  have HB1 := hid_mk hb1
  clear hw hr hb1
  go_wp2
  go_ret
  exact ⟨_, rfl, HR.out, HB1.out⟩
end Go.Proofs.YtbeolmofnmnknaaGreatDoor.L
namespace Go.Proofs.YtbeolmofnmnknaaGreatDoor.L
open Go.RowKit
set_option maxRecDepth 100000

set_option maxHeartbeats 1000000 in
theorem specs_walk (W : World) (hsg : Signs W) {v : Value} {l : List Cx} (hv : ClAt W v l) (hlw : ∀ d, wt d l ≤ 10000000) {pv cv : Value} {c : Cx} {bc oc bp op : Nat} {qv : Nat → Value} {bq oq : Nat → Nat} {lv : Nat → Nat → Value} (hc : CxAt (ClAt W) W pv cv c bc oc bp op qv bq oq lv) (hcw : ∀ d, wt d [c] ≤ 10000000) :
    Calls Tryz.prog 3 #[v, .agg #[pv, cv]] W fun e w' => e = .returned (.bool true) ∧ Below W.heap.size W w' := by
  obtain ⟨vb, voff, ⟨va, vc, rfl, hv1, hv2, hva⟩, hvat⟩ := hv.at
  have HAT : Hid (∀ w, Below W.heap.size W w → ∀ i (hi : i < l.length), ∃ (pv cv : Value) (bc oc bp op : Nat) (qv : Nat → Value) (bq oq : Nat → Nat) (lv : Nat → Nat → Value), w.cell? ⟨vb, voff + i * 2, none⟩ = some pv ∧ w.cell? ⟨vb, voff + i * 2 + 1, none⟩ = some cv ∧ CxAt (ClAt w) w pv cv (l[i]'hi) bc oc bp op qv bq oq lv) := fun w hb i hi => by
    obtain ⟨pv, cv, bc, oc, bp, op, qv, bq, oq, lv, h1, h2, h3⟩ := hvat i hi
    have hlt := (hva (by omega)).2
    exact ⟨pv, cv, bc, oc, bp, op, qv, bq, oq, lv, (hb.cell (p := ⟨vb, voff + i * 2, none⟩) hlt).trans h1, (hb.cell (p := ⟨vb, voff + i * 2 + 1, none⟩) hlt).trans h2, h3.keep hb⟩
  have HVA := hid_mk hva
  clear hvat hva
  obtain ⟨pa, pc, rfl, hp1, hp2, hpa⟩ := hc.ps
  obtain ⟨ca, cc, rfl, _, _, _⟩ := hc.cs
  obtain ⟨W1, hW1⟩ : ∃ W1, W1 = W.alloc (.cells #[.slice pa c.parts.length pc, .slice ca c.combs.length cc] 26) := ⟨_, rfl⟩
  have hB1 : Below W.heap.size W W1 := by rw [hW1]; exact (Below.refl _ _).alloc (Nat.le_refl _) _
  have x1 : W1.heap[W.heap.size]? = some (.cells #[.slice pa c.parts.length pc, .slice ca c.combs.length cc] 26 (0, 0)) := by rw [hW1]; exact heap_alloc_last W _
  have hl1 : W.heap.size < W1.heap.size := (Array.getElem?_eq_some_iff.1 x1).1
  have HLV : Hid (∀ w, Below W.heap.size W w → Calls Tryz.prog 5 #[] w fun e w' => e = .returned (.bool true) ∧ Below w.heap.size w w') := fun w hb => lives_any w (hsg.keep hb)
  have hg1 := great_any (hv.keep hB1) hlw
  have HG2 : Hid (∀ w, Below W.heap.size W w → Calls Tryz.prog 4 #[.slice (some ⟨w.heap.size, 0, none⟩) 1 1] (w.alloc (.cells #[.slice pa c.parts.length pc, .slice ca c.combs.length cc] 26)) (GrP [c] (w.alloc (.cells #[.slice pa c.parts.length pc, .slice ca c.combs.length cc] 26)))) := fun w hb => by
    have hba : Below w.heap.size w (w.alloc (.cells #[.slice pa c.parts.length pc, .slice ca c.combs.length cc] 26)) := (Below.refl _ _).alloc (Nat.le_refl _) _
    have hx := heap_alloc_last w (.cells #[.slice pa c.parts.length pc, .slice ca c.combs.length cc] 26)
    exact great_any (ClAt.one ((hc.keep hb).keep hba) (Array.getElem?_eq_some_iff.1 hx).1 (cellAt hx 0) (cellAt hx 1)) hcw
  have HCX : Hid (∀ w, Below W.heap.size W w → CxAt (ClAt w) w (.slice pa c.parts.length pc) (.slice ca c.combs.length cc) c bc oc bp op qv bq oq lv) := fun w hb => hc.keep hb
  have HCL : Hid (∀ w, Below W.heap.size W w → ClAt w (.slice va l.length vc) l) := fun w hb => hv.keep hb
  have HK : Hid (∀ w, Below W1.heap.size W1 w → w.cell? ⟨W.heap.size, 0, none⟩ = some (.slice pa c.parts.length pc) ∧ w.cell? ⟨W.heap.size, 1, none⟩ = some (.slice ca c.combs.length cc)) := fun w hb => ⟨(hb.cell (p := ⟨W.heap.size, 0, none⟩) hl1).trans (cellAt x1 0), (hb.cell (p := ⟨W.heap.size, 1, none⟩) hl1).trans (cellAt x1 1)⟩
  have HB1 := hid_mk hB1
  have HW1 := hid_mk hW1
  have HPA := hid_mk hpa
  clear hv hlw hc hcw hsg hW1 x1 hB1 hl1 hpa
  go_enter Tryz.func3, Tryz.ntmps3
  go_upto_region 1 with (fail)
  rw [← HW1.out]
  go_wp2_with (go_at_call 4; fail)
  refine hg1.mono ?_
  rintro e w2 ⟨g1, rfl, hgr1, hb2⟩
  have hBW2 : Below W.heap.size W w2 := HB1.out.trans (hb2.mono HB1.out.size)
  cases g1 with
  | true =>
    have hlv := HLV.out w2 hBW2
    have HBW2 := hid_mk hBW2
    clear hg1 hgr1 hb2 hBW2 HG2 HCX HCL HK HPA HLV
    go_wp2_with (go_at_call 5; fail)
    refine hlv.mono ?_
    rintro e w4 ⟨rfl, hb4⟩
    have HB4 : Hid (Below W.heap.size W w4) := HBW2.out.trans (hb4.mono HBW2.out.size)
    clear hlv hb4
    go_wp2
    go_ret
    exact ⟨rfl, HB4.out⟩
  | false =>
    have HWL := hid_mk (hgr1 rfl)
    obtain ⟨k0, k1⟩ := HK.out w2 hb2
    have hg2 := HG2.out w2 hBW2
    have HB2 := hid_mk hb2
    have HBW2 := hid_mk hBW2
    clear hg1 hgr1 hb2 hBW2 HG2
    go_wp2_with (go_at_call 4; fail)
    refine hg2.mono ?_
    rintro e w3 ⟨g2, rfl, hgr2, hb3⟩
    have hB3 : Below W1.heap.size W1 w3 := HB2.out.trans (((Below.refl _ _).alloc (Nat.le_refl _) _ |>.trans (hb3.mono (by simp))).mono HB2.out.size)
    have hBW3 : Below W.heap.size W w3 := HB1.out.trans (hB3.mono HB1.out.size)
    cases g2 with
    | true =>
      have hlv := HLV.out w3 hBW3
      have HBW3 := hid_mk hBW3
      clear hg2 hgr2 hb3 hB3 hBW3 HCX HCL HK HPA HLV k0 k1 HWL HB2 HBW2
      go_wp2_with (go_at_call 5; fail)
      refine hlv.mono ?_
      rintro e w4 ⟨rfl, hb4⟩
      have HB4 : Hid (Below W.heap.size W w4) := HBW3.out.trans (hb4.mono HBW3.out.size)
      clear hlv hb4
      go_wp2
      go_ret
      exact ⟨rfl, HB4.out⟩
    | false =>
      have HWC := hid_mk (hgr2 rfl)
      have hsz : szZ l ≤ 401 := szZ_wt HWL.out
      have hszc : szZ [c] ≤ 401 := szZ_wt HWC.out
      have hmo := most_any (HCL.out w3 hBW3) (by omega)
      unfold S3.v at hmo
      have HB3 := hid_mk hB3
      have HBW3 := hid_mk hBW3
      clear hg2 hgr2 hb3 hB3 hBW3 k0 k1 HB2 HBW2
      go_wp2_with (go_at_call 6; fail)
      refine hmo.mono ?_
      rintro e w4 ⟨rfl, hb4⟩
      obtain ⟨w5, hw5⟩ : ∃ w5, w5 = w4.alloc (.cells #[.int .i64 (mostZ l).a, .int .i64 (mostZ l).b, .int .i64 (mostZ l).c] 30) := ⟨_, rfl⟩
      have hb45 : Below w4.heap.size w4 w5 := by rw [hw5]; exact (Below.refl _ _).alloc (Nat.le_refl _) _
      have hB35 : Below w3.heap.size w3 w5 := hb4.trans (hb45.mono hb4.size)
      have hx5 : SB w5 w4.heap.size (mostZ l) := by rw [hw5]; exact heap_alloc_last w4 _
      have hl5 : w4.heap.size < w5.heap.size := (Array.getElem?_eq_some_iff.1 hx5).1
      have hB15 : Below W1.heap.size W1 w5 := HB3.out.trans (hB35.mono HB3.out.size)
      have hBW5 : Below W.heap.size W w5 := HB1.out.trans (hB15.mono HB1.out.size)
      have HI6 : Hid (∀ w, Below w5.heap.size w5 w → Calls Tryz.prog 7 #[.int .i64 6, .slice va l.length vc] w fun e w' => e = .returned (mostZ l).v ∧ Below w5.heap.size w5 w') := fun w hb => (within7_any 6 (HCL.out w (hBW5.trans (hb.mono hBW5.size))) (by omega)).mono fun e w' h => ⟨by rw [h.1, within_as rfl], hb.trans (h.2.mono hb.size)⟩
      have HI5 : Hid (∀ w, Below w5.heap.size w5 w → Calls Tryz.prog 7 #[.int .i64 5, .slice va l.length vc] w fun e w' => e = .returned (mostZ l).v ∧ Below w5.heap.size w5 w') := fun w hb => (within7_any 5 (HCL.out w (hBW5.trans (hb.mono hBW5.size))) (by omega)).mono fun e w' h => ⟨by rw [h.1, within_as rfl], hb.trans (h.2.mono hb.size)⟩
      have HI7 : Hid (∀ w, Below w5.heap.size w5 w → Calls Tryz.prog 7 #[.int .i64 7, .slice va l.length vc] w fun e w' => e = .returned z3.v ∧ Below w5.heap.size w5 w') := fun w hb => (within7_any 7 (HCL.out w (hBW5.trans (hb.mono hBW5.size))) (by omega)).mono fun e w' h => ⟨by rw [h.1, within_7], hb.trans (h.2.mono hb.size)⟩
      have HM : Hid (∀ w, Below w5.heap.size w5 w → w.cell? ⟨w4.heap.size, 0, none⟩ = some (.int .i64 (mostZ l).a) ∧ w.cell? ⟨w4.heap.size, 1, none⟩ = some (.int .i64 (mostZ l).b) ∧ w.cell? ⟨w4.heap.size, 2, none⟩ = some (.int .i64 (mostZ l).c)) := fun w hb => (hx5.cells hb).1
      have HMAX : Hid (∀ x ∈ l, lessS (mostZ l) (mostZ [x]) = false) := fun x hx => most_max hx
      have HON : Hid (lessS (mostZ [onS c l]) (mostZ [c]) = false ∧ lessS (mostZ [onS c l]) (mostZ l) = false) := by
        have h1 := mostZ_ok [c]
        have h2 := mostZ_ok l
        rw [of_on]
        exact ⟨add_l h1 h2, add_r h1 h2⟩
      have HSO : Hid (szZ [onS c l] ≤ 1000) := by
        show szZ [onS c l] ≤ 1000
        rw [sz_on]
        omega
      have HSC := hid_mk hszc
      have HW5 := hid_mk hw5
      have HBW5 := hid_mk hBW5
      have HB15 := hid_mk hB15
      have HL5 := hid_mk hl5
      unfold S3.v at HI5 HI6 HI7
      generalize mostZ l = M at *
      clear hmo hb4 hb45 hB35 hx5 hB15 hBW5 hw5 HB3 HBW3 hl5
      have gd : Below w5.heap.size w5 w5 := Below.refl _ _
      have ge : Below w5.heap.size w5 w5.drew := (Below.refl _ _).drew
      obtain ⟨Ma, Mb, Mc⟩ := M
      dsimp only [z3] at HI5 HI6 HI7 HM HW5
      go_upto_region 4 with (fail)
      rw [← HW5.out]
      clear HW5
      go_region_held3 (fun w' => w'.cell? ⟨w4.heap.size, 0, none⟩ = some (.int .i64 Ma) ∧ w'.cell? ⟨w4.heap.size, 1, none⟩ = some (.int .i64 Mb) ∧ w'.cell? ⟨w4.heap.size, 2, none⟩ = some (.int .i64 Mc))
        (first | with_reducible exact HM.out _ gd | with_reducible exact HM.out _ ge | with_reducible exact HM.out _ ga | with_reducible exact HM.out _ gb | with_reducible exact HM.out _ gc)
        (first
          | (go_at_call 7; with_reducible refine (HI6.out _ ge).mono ?_; rintro e wa ⟨rfl, ga⟩)
          | (go_at_call 7; with_reducible refine (HI5.out _ ga).mono ?_; rintro e wb ⟨rfl, gb⟩)
          | (go_at_call 7; with_reducible refine (HI7.out _ gb).mono ?_; rintro e wc ⟨rfl, gc⟩))
      have HBC := hid_mk gc
      have HLE : Hid (∀ w x y, Below w5.heap.size w5 w → Calls Tryz.prog 8 #[S3.v x, S3.v y] w fun e w' => e = .returned (.bool (lessS x y)) ∧ Below w5.heap.size w5 w') := fun w x y hb => (less_any w x y).mono fun e w' h => ⟨h.1, hb.trans (h.2.mono hb.size)⟩
      clear gd ge ga gb gc HI5 HI6 HI7
      go_wp2
      go_loopw [37] (fun a37 wq => ∃ i : Nat, i ≤ l.length ∧ a37 = .int .i64 (i : Int) ∧ Hid (Below w5.heap.size w5 wq)) (fun a37 _ => l.length + 1 - (intOf a37).toNat)
      case atStart => exact ⟨0, Nat.zero_le _, rfl, HBC⟩
      case round =>
        obtain ⟨i, hi, rfl, HBi⟩ := hrel
        clear HBC
        by_cases hil : i < l.length
        · obtain ⟨rfl, hvb⟩ := HVA.out (by omega)
          have hBWi : Below W.heap.size W wr := HBW5.out.trans (HBi.out.mono HBW5.out.size)
          obtain ⟨xp, xc, xbc, xoc, xbp, xop, xqv, xbq, xoq, xlv, q1, q2, hcx⟩ := HAT.out wr hBWi i hil
          obtain ⟨xpa, xpc, rfl, _⟩ := hcx.ps
          obtain ⟨xca, xcc, rfl, _⟩ := hcx.cs
          have hszx : szZ [l[i]] ≤ 401 := szZ_wt (wt_mem (List.getElem_mem hil) HWL.out)
          have HLX := hid_mk (HMAX.out (l[i]'hil) (List.getElem_mem hil))
          generalize (l[i]'hil).parts.length = xpn at *
          generalize (l[i]'hil).combs.length = xcn at *
          obtain ⟨w6, hw6⟩ : ∃ w6, w6 = wr.alloc (.cells #[.slice xpa xpn xpc, .slice xca xcn xcc] 26) := ⟨_, rfl⟩
          have hb6 : Below wr.heap.size wr w6 := by rw [hw6]; exact (Below.refl _ _).alloc (Nat.le_refl _) _
          have hx6 : w6.heap[wr.heap.size]? = some (.cells #[.slice xpa xpn xpc, .slice xca xcn xcc] 26 (0, 0)) := by rw [hw6]; exact heap_alloc_last wr _
          have hl6 : wr.heap.size < w6.heap.size := (Array.getElem?_eq_some_iff.1 hx6).1
          have h56 : Below w5.heap.size w5 w6 := HBi.out.trans (hb6.mono HBi.out.size)
          have HOF : Hid (∀ w, Below w6.heap.size w6 w → Calls Tryz.prog 9 #[.agg #[.slice xpa xpn xpc, .slice xca xcn xcc]] w fun e w' => e = .returned (mostZ [l[i]]).v ∧ Below w6.heap.size w6 w') := fun w hb => (of_any (hcx.keep (hb6.trans (hb.mono hb6.size))) (by omega)).mono fun e w' h => ⟨h.1, hb.trans (h.2.mono hb.size)⟩
          have HXM : Hid (∀ w, Below w6.heap.size w6 w → (w.cell? ⟨w4.heap.size, 0, none⟩ = some (.int .i64 Ma) ∧ w.cell? ⟨w4.heap.size, 1, none⟩ = some (.int .i64 Mb) ∧ w.cell? ⟨w4.heap.size, 2, none⟩ = some (.int .i64 Mc)) ∧ w.cell? ⟨wr.heap.size, 0, none⟩ = some (.slice xpa xpn xpc) ∧ w.cell? ⟨wr.heap.size, 1, none⟩ = some (.slice xca xcn xcc)) := fun w hb => ⟨HM.out w (h56.trans (hb.mono h56.size)), (hb.cell (p := ⟨wr.heap.size, 0, none⟩) hl6).trans (cellAt hx6 0), (hb.cell (p := ⟨wr.heap.size, 1, none⟩) hl6).trans (cellAt hx6 1)⟩
          have HLS : Hid (∀ w, Below w6.heap.size w6 w → Calls Tryz.prog 8 #[S3.v ⟨Ma, Mb, Mc⟩, S3.v (mostZ [l[i]])] w fun e w' => e = .returned (.bool false) ∧ Below w6.heap.size w6 w') := fun w hb => (less_any w _ _).mono fun e w' h => ⟨by rw [h.1, HLX.out], hb.trans (h.2.mono hb.size)⟩
          unfold S3.v at HOF HLS
          generalize mostZ [l[i]] = X at *
          obtain ⟨Xa, Xb, Xc⟩ := X
          dsimp only at HOF HLS
          have gd : Below w6.heap.size w6 w6 := Below.refl _ _
          have ge : Below w6.heap.size w6 w6.drew := (Below.refl _ _).drew
          have HW6 := hid_mk hw6
          have H56 := hid_mk h56
          clear hszx HLX hb6 hx6 hl6 h56 hw6 hcx hBWi HAT HLE HMAX HON HSO HCX HCL HLV HK HVA HPA HWL HWC
          go_upto_region 9 with (fail)
          rw [← HW6.out]
          clear HW6 q1 q2
          go_region_held3 (fun w' => (w'.cell? ⟨w4.heap.size, 0, none⟩ = some (.int .i64 Ma) ∧ w'.cell? ⟨w4.heap.size, 1, none⟩ = some (.int .i64 Mb) ∧ w'.cell? ⟨w4.heap.size, 2, none⟩ = some (.int .i64 Mc)) ∧ w'.cell? ⟨wr.heap.size, 0, none⟩ = some (.slice xpa xpn xpc) ∧ w'.cell? ⟨wr.heap.size, 1, none⟩ = some (.slice xca xcn xcc))
            (first | with_reducible exact HXM.out _ gd | with_reducible exact HXM.out _ ge | with_reducible exact HXM.out _ ga | with_reducible exact HXM.out _ gb)
            (first
              | (go_at_call 9; with_reducible refine (HOF.out _ ge).mono ?_; rintro e wa ⟨rfl, ga⟩)
              | (go_at_call 8; with_reducible refine (HLS.out _ ga).mono ?_; rintro e wb ⟨rfl, gb⟩))
          have HBb := hid_mk (H56.out.trans (gb.mono H56.out.size))
          clear gd ge ga gb HXM HOF HLS H56 HM HBi
          go_wp2
          exact ⟨⟨i + 1, hil, by go_num, HBb⟩, by simp only [intOf]; omega⟩
        · obtain rfl : i = l.length := by omega
          have hnp : c.parts.length ≤ 400 := parts_len HWC.out
          have hBWr : Below W.heap.size W wr := HBW5.out.trans (HBi.out.mono HBW5.out.size)
          have hB1r : Below W1.heap.size W1 wr := HB15.out.trans (HBi.out.mono HB15.out.size)
          obtain ⟨k0, k1⟩ := HK.out wr hB1r
          have hba : Below wr.heap.size wr (wr.alloc (.cells #[] 37)) := (Below.refl _ _).alloc (Nat.le_refl _) _
          have hown0 : Hid ((wr.alloc (.cells #[] 37)).ownsRow wr.heap.size 37 1 (.slice (some ⟨wr.heap.size, 0, none⟩) 0 0) 0 []) := World.ownsRow_lit (base := wr.heap.size) (e := 37) (size := 1) wr #[] 0 (Nat.le_refl _) (by decide) rfl
          have k0a : (wr.alloc (.cells #[] 37)).cell? ⟨W.heap.size, 0, none⟩ = some (.slice pa c.parts.length pc) := (hba.cell (p := ⟨W.heap.size, 0, none⟩) (World.block_lt_of_cell? wr _ k0)).trans k0
          have HQN : Hid (0 < c.parts.length → ∃ ad, pa = some ad ∧ ∀ j u, (qvL c.parts.length qv)[j]? = some u → (wr.alloc (.cells #[] 37)).cell? (ad.add j) = some u) := fun h0 => by
            obtain ⟨e, hlt⟩ := HPA.out h0
            refine ⟨_, e, fun j u hu => ?_⟩
            rw [qvL_get] at hu
            split at hu
            · rename_i hj
              cases hu
              have := (HCX.out _ (hBWr.trans (hba.mono hBWr.size))).pc j hj
              rw [show (⟨bp, op, none⟩ : Addr).add j = ⟨bp, op + j, none⟩ by unfold Addr.add; split <;> simp_all]
              exact this
            · cases hu
          have HQ1 : Hid (∀ u ∈ qvL c.parts.length qv, u.oneCell' = true) := fun u hu => by
            unfold qvL at hu
            obtain ⟨j, hj, rfl⟩ := List.mem_map.1 hu
            obtain ⟨a, cp, e, _⟩ := (HCX.out wr hBWr).qs j (by simpa using hj)
            rw [e]
            rfl
          have HQL : Hid ((qvL c.parts.length qv).length = c.parts.length) := by show (qvL _ _).length = _; simp [qvL]
          have HBWr := hid_mk hBWr
          have HB1r := hid_mk hB1r
          have HBA := hid_mk hba
          clear hBWr hB1r hba k0 k1 HAT HMAX HVA HWL HWC hsz hszc
          go_wp2_with (at_builtin; with_reducible refine wpList_append_sl rfl _ _ rfl wr.heap.size wr.heap.size rfl hown0.out pa c.parts.length pc (qvL c.parts.length qv) rfl HQL.out HQN.out HQ1.out (by omega) (by simp) ?_)
          intro v1 w1 ho1 hg1
          have hBr1 : Below wr.heap.size wr w1 := HBA.out.grown hg1 (by simp) fun k e => by cases e; exact Nat.le_refl _
          have hlow : ∀ k, v1.ownBlock = some k → k < w1.heap.size := fun k e => by
            obtain ⟨_, c, h⟩ := own_base ho1 k e
            exact (Array.getElem?_eq_some_iff.1 h).1
          have hbs : ∀ k, v1.ownBlock = some k → wr.heap.size ≤ k := fun k e => (own_base ho1 k e).1
          obtain ⟨a1, m1, c1, rfl⟩ := own_sl ho1
          have HO3 : Hid (((w1.alloc (.cells #[.int .i64 6, .string ⟨#[]⟩, .int .i64 0, .string ⟨#[]⟩, .int .i64 0, .int .i64 0, .slice va l.length vc] 36)).alloc (.cells #[.slice (some ⟨w1.heap.size, 0, none⟩) 1 1] 37)).ownsRow wr.heap.size 37 1 (.slice a1 m1 c1) c.parts.length (qvL c.parts.length qv)) := (ho1.alloc _).alloc _
          have HON2 : Hid (∀ j u, [Value.slice (some ⟨w1.heap.size, 0, none⟩) 1 1][j]? = some u → ((w1.alloc (.cells #[.int .i64 6, .string ⟨#[]⟩, .int .i64 0, .string ⟨#[]⟩, .int .i64 0, .int .i64 0, .slice va l.length vc] 36)).alloc (.cells #[.slice (some ⟨w1.heap.size, 0, none⟩) 1 1] 37)).cell? (Addr.add ⟨w1.heap.size + 1, 0, none⟩ j) = some u) := by
            have := one_news (w := w1.alloc (.cells #[.int .i64 6, .string ⟨#[]⟩, .int .i64 0, .string ⟨#[]⟩, .int .i64 0, .int .i64 0, .slice va l.length vc] 36)) (x := .slice (some ⟨w1.heap.size, 0, none⟩) 1 1) (T := 37)
            rwa [show (w1.alloc (.cells #[.int .i64 6, .string ⟨#[]⟩, .int .i64 0, .string ⟨#[]⟩, .int .i64 0, .int .i64 0, .slice va l.length vc] 36)).heap.size = w1.heap.size + 1 by simp] at this
          have HO1 : Hid (∀ u ∈ [Value.slice (some ⟨w1.heap.size, 0, none⟩) 1 1], u.oneCell' = true) := fun u hu => by rw [List.mem_singleton.1 hu]; rfl
          have hszw : wr.heap.size ≤ w1.heap.size := hBr1.size
          have HFIN : Hid (∀ (v2 : Value) (w2 : World), w2.ownsRow wr.heap.size 37 1 v2 (c.parts.length + 1) (qvL c.parts.length qv ++ [.slice (some ⟨w1.heap.size, 0, none⟩) 1 1]) → ((w1.alloc (.cells #[.int .i64 6, .string ⟨#[]⟩, .int .i64 0, .string ⟨#[]⟩, .int .i64 0, .int .i64 0, .slice va l.length vc] 36)).alloc (.cells #[.slice (some ⟨w1.heap.size, 0, none⟩) 1 1] 37)).grownBy w2 (Value.slice a1 m1 c1).ownBlock → Below wr.heap.size wr w2 ∧ ∃ bp' qv' bq' oq' lv', CxAt (ClAt w2) w2 v2 (.slice none 0 0) (onS c l) 0 0 bp' 0 qv' bq' oq' lv') := fun v2 w2 ho hg => by
            have hb3 : Below wr.heap.size wr ((w1.alloc (.cells #[.int .i64 6, .string ⟨#[]⟩, .int .i64 0, .string ⟨#[]⟩, .int .i64 0, .int .i64 0, .slice va l.length vc] 36)).alloc (.cells #[.slice (some ⟨w1.heap.size, 0, none⟩) 1 1] 37)) := (hBr1.alloc hszw _).alloc (by simp; omega) _
            have hb2 : Below wr.heap.size wr w2 := hb3.grown hg (by simp; omega) hbs
            have hx : w2.heap[w1.heap.size]? = some (.cells #[.int .i64 6, .string ⟨#[]⟩, .int .i64 0, .string ⟨#[]⟩, .int .i64 0, .int .i64 0, .slice va l.length vc] 36 (0, 0)) := by
              rw [hg.block _ (by simp; omega) (fun e => by have := hlow _ e.symm; omega), Below.heap_alloc _ _ _ (by simp)]
              exact heap_alloc_last w1 _
            have hbw : Below W.heap.size W w2 := HBWr.out.trans (hb2.mono HBWr.out.size)
            exact ⟨hb2, onS_at (HCX.out _ hbw) (HCL.out _ hbw) hx ho⟩
          obtain ⟨i0, z0, hif, hz0, hz1, hz2, hz3⟩ := info37
          clear ho1 hg1 hBr1 hlow hbs hown0 k0a HQN HQ1 HQL HBA
          go_wp2_with (at_builtin; with_reducible refine wpList_append_own _ rfl _ _ 23 rfl wr.heap.size 37 i0 z0 1 24 Tryz.underlying23 hif hz0 hz1 hz2 hz3 (by decide) (.slice a1 m1 c1) c.parts.length (qvL c.parts.length qv) rfl HO3.out ⟨w1.heap.size + 1, 0, none⟩ 1 1 [.slice (some ⟨w1.heap.size, 0, none⟩) 1 1] rfl rfl HON2.out HO1.out ?c1 ?c2 ?c3 ?_)
          case c1 => unfold maxLen; omega
          case c2 => omega
          case c3 => simp; omega
          intro v2 w2 ho2 hg2 _
          obtain ⟨hBr2, bp', qv', bq', oq', lv', hcd⟩ := HFIN.out v2 w2 ho2 hg2
          obtain ⟨a2, m2, c2, rfl⟩ := own_sl ho2
          obtain ⟨w3', hw3⟩ : ∃ w3', w3' = w2.alloc (.cells #[.slice a2 m2 c2, .slice none 0 0] 26) := ⟨_, rfl⟩
          have hb23 : Below w2.heap.size w2 w3' := by rw [hw3]; exact (Below.refl _ _).alloc (Nat.le_refl _) _
          have hx3 : w3'.heap[w2.heap.size]? = some (.cells #[.slice a2 m2 c2, .slice none 0 0] 26 (0, 0)) := by rw [hw3]; exact heap_alloc_last w2 _
          have hl3 : w2.heap.size < w3'.heap.size := (Array.getElem?_eq_some_iff.1 hx3).1
          have hBr3 : Below wr.heap.size wr w3' := hBr2.trans (hb23.mono hBr2.size)
          have hBW3 : Below W.heap.size W w3' := HBWr.out.trans (hBr3.mono HBWr.out.size)
          have hB13 : Below W1.heap.size W1 w3' := HB1r.out.trans (hBr3.mono HB1r.out.size)
          have h53 : Below w5.heap.size w5 w3' := HBi.out.trans (hBr3.mono HBi.out.size)
          have HRD : Hid (∀ w, Below w3'.heap.size w3' w → Calls Tryz.prog 9 #[.agg #[.slice a2 m2 c2, .slice none 0 0]] w fun e w' => e = .returned (mostZ [onS c l]).v ∧ Below w3'.heap.size w3' w') := fun w hb => (of_any (hcd.keep (hb23.trans (hb.mono hb23.size))) (by have := HSO.out; omega)).mono fun e w' h => ⟨h.1, hb.trans (h.2.mono hb.size)⟩
          have HRC : Hid (∀ w, Below w3'.heap.size w3' w → Calls Tryz.prog 9 #[.agg #[.slice pa c.parts.length pc, .slice ca c.combs.length cc]] w fun e w' => e = .returned (mostZ [c]).v ∧ Below w3'.heap.size w3' w') := fun w hb => (of_any (HCX.out w (hBW3.trans (hb.mono hBW3.size))) (by have := HSC.out; omega)).mono fun e w' h => ⟨h.1, hb.trans (h.2.mono hb.size)⟩
          have HL1 : Hid (∀ w, Below w3'.heap.size w3' w → Calls Tryz.prog 8 #[(mostZ [onS c l]).v, (mostZ [c]).v] w fun e w' => e = .returned (.bool false) ∧ Below w3'.heap.size w3' w') := fun w hb => (less_any w _ _).mono fun e w' h => ⟨by rw [h.1, HON.out.1], hb.trans (h.2.mono hb.size)⟩
          have HL2 : Hid (∀ w, Below w3'.heap.size w3' w → Calls Tryz.prog 8 #[(mostZ [onS c l]).v, S3.v ⟨Ma, Mb, Mc⟩] w fun e w' => e = .returned (.bool false) ∧ Below w3'.heap.size w3' w') := fun w hb => (less_any w _ _).mono fun e w' h => ⟨by rw [h.1, HON.out.2], hb.trans (h.2.mono hb.size)⟩
          have HL3 : Hid (∀ w, Below w3'.heap.size w3' w → Calls Tryz.prog 8 #[S3.v ⟨Ma, Mb, Mc⟩, S3.v ⟨Ma, Mb, Mc⟩] w fun e w' => e = .returned (.bool false) ∧ Below w3'.heap.size w3' w') := fun w hb => (less_any w _ _).mono fun e w' h => ⟨by rw [h.1, le_self], hb.trans (h.2.mono hb.size)⟩
          have HL5' : Hid (∀ w, Below w3'.heap.size w3' w → Calls Tryz.prog 5 #[] w fun e w' => e = .returned (.bool true) ∧ Below w3'.heap.size w3' w') := fun w hb => (HLV.out w (hBW3.trans (hb.mono hBW3.size))).mono fun e w' h => ⟨h.1, hb.trans (h.2.mono hb.size)⟩
          have HSS : Hid (∀ w, Below w3'.heap.size w3' w → (w.cell? ⟨w4.heap.size, 0, none⟩ = some (.int .i64 Ma) ∧ w.cell? ⟨w4.heap.size, 1, none⟩ = some (.int .i64 Mb) ∧ w.cell? ⟨w4.heap.size, 2, none⟩ = some (.int .i64 Mc)) ∧ (w.cell? ⟨W.heap.size, 0, none⟩ = some (.slice pa c.parts.length pc) ∧ w.cell? ⟨W.heap.size, 1, none⟩ = some (.slice ca c.combs.length cc)) ∧ w.cell? ⟨w2.heap.size, 0, none⟩ = some (.slice a2 m2 c2) ∧ w.cell? ⟨w2.heap.size, 1, none⟩ = some (.slice none 0 0)) := fun w hb => ⟨HM.out w (h53.trans (hb.mono h53.size)), HK.out w (hB13.trans (hb.mono hB13.size)), (hb.cell (p := ⟨w2.heap.size, 0, none⟩) hl3).trans (cellAt hx3 0), (hb.cell (p := ⟨w2.heap.size, 1, none⟩) hl3).trans (cellAt hx3 1)⟩
          unfold S3.v at HRD HRC HL1 HL2 HL3
          generalize mostZ [onS c l] = D at *
          generalize mostZ [c] = C at *
          obtain ⟨Da, Db, Dc⟩ := D
          obtain ⟨Ca, Cb, Cc⟩ := C
          dsimp only at HRD HRC HL1 HL2 HL3
          have gd : Below w3'.heap.size w3' w3' := Below.refl _ _
          have ge : Below w3'.heap.size w3' w3'.drew := (Below.refl _ _).drew
          have HW3 := hid_mk hw3
          have HBW3 := hid_mk hBW3
          generalize c.parts.length = pn at *
          generalize c.combs.length = cn at *
          clear ho2 hg2 hBr2 hcd hw3 hb23 hx3 hl3 hBr3 hBW3 hB13 h53 HFIN HO3 HON2 HO1 HCX HCL HLV HK HM HON HSO HSC HLE HBWr HB1r HBi HB1 HW1 hszw hif hz0 hz1 hz2 hz3 hnp
          go_upto_region 13 with (fail)
          rw [← HW3.out]
          clear HW3
          go_region_held3 (fun w => (w.cell? ⟨w4.heap.size, 0, none⟩ = some (.int .i64 Ma) ∧ w.cell? ⟨w4.heap.size, 1, none⟩ = some (.int .i64 Mb) ∧ w.cell? ⟨w4.heap.size, 2, none⟩ = some (.int .i64 Mc)) ∧ (w.cell? ⟨W.heap.size, 0, none⟩ = some (.slice pa pn pc) ∧ w.cell? ⟨W.heap.size, 1, none⟩ = some (.slice ca cn cc)) ∧ w.cell? ⟨w2.heap.size, 0, none⟩ = some (.slice a2 m2 c2) ∧ w.cell? ⟨w2.heap.size, 1, none⟩ = some (.slice none 0 0))
            (first | with_reducible exact HSS.out _ gd | with_reducible exact HSS.out _ ge | with_reducible exact HSS.out _ ga | with_reducible exact HSS.out _ gb | with_reducible exact HSS.out _ gc | with_reducible exact HSS.out _ gf | with_reducible exact HSS.out _ gg | with_reducible exact HSS.out _ gh | with_reducible exact HSS.out _ gi)
            (first
              | (go_at_call 9; with_reducible refine (HRD.out _ ge).mono ?_; rintro e wa ⟨rfl, ga⟩)
              | (go_at_call 9; with_reducible refine (HRC.out _ ga).mono ?_; rintro e wb ⟨rfl, gb⟩)
              | (go_at_call 8; with_reducible refine (HL1.out _ gb).mono ?_; rintro e wc ⟨rfl, gc⟩)
              | (go_at_call 9; with_reducible refine (HRD.out _ gc).mono ?_; rintro e wf ⟨rfl, gf⟩)
              | (go_at_call 8; with_reducible refine (HL2.out _ gf).mono ?_; rintro e wg ⟨rfl, gg⟩)
              | (go_at_call 8; with_reducible refine (HL3.out _ gg).mono ?_; rintro e wh ⟨rfl, gh⟩)
              | (go_at_call 5; with_reducible refine (HL5'.out _ gh).mono ?_; rintro e wi ⟨rfl, gi⟩))
          have HZ := hid_mk (HBW3.out.trans (gi.mono HBW3.out.size))
          clear gd ge ga gb gc gf gg gh gi HSS HRD HRC HL1 HL2 HL3 HL5'
          go_wp2
          go_ret
          exact ⟨rfl, HZ.out⟩
end Go.Proofs.YtbeolmofnmnknaaGreatDoor.L
namespace Go.Proofs.YtbeolmofnmnknaaGreatDoor.L
open Go.ChangeShapes Go.WideShapes Go.ChangeAt Go.RowKit
set_option maxRecDepth 100000

theorem cells_each {w : World} {base n : Nat} {a : Addr} {cs : List Value} (h : w.cells? base a n = some cs) : base ≤ a.block ∧ cs.length = n ∧ ∀ i, i < n → w.cell? (a.add i) = cs[i]? := by
  unfold World.cells? at h
  split at h
  · rename_i hb
    refine ⟨hb, ?_, fun i hi => ?_⟩
    · have := mapM_some_length h
      simpa using this
    · exact mapM_some_get h i i (by simp [hi])
  · cases h
theorem add_none (b off j : Nat) : (⟨b, off, none⟩ : Addr).add j = ⟨b, off + j, none⟩ := by unfold Addr.add; split <;> simp_all
theorem head_of {a b : Value} (h : [a] = [b]) : a = b := by simpa using h
theorem collect {Q : Type} (q0 : Q) {n : Nat} {P : Nat → Q → Prop} (h : ∀ i, i < n → ∃ q, P i q) : ∃ f : Nat → Q, ∀ i, i < n → P i (f i) :=
  ⟨fun i => @Classical.epsilon Q ⟨q0⟩ (P i), fun i hi => @Classical.epsilon_spec_aux Q ⟨q0⟩ (P i) (h i hi)⟩
theorem get_eq {α : Type} {p p' : List α} (e : p = p') {t : Nat} (h : t < p.length) (h' : t < p'.length) : p[t]'h = p'[t]'h' := by
  subst e
  rfl
def s60 : S6 := ⟨0, ⟨#[]⟩, 0, ⟨#[]⟩, 0, 0⟩
theorem bulk_one {H : Type} (d : DataW H) : 1 ≤ Rows.uptoBulk d := by
  cases d with
  | lit l => cases l <;> simp [Rows.uptoBulk]
  | nil => simp [Rows.uptoBulk]
  | ptr d => simp [Rows.uptoBulk]
  | slice elems spare => simp [Rows.uptoBulk]
  | agg parts => simp [Rows.uptoBulk]
  | iface t d => simp [Rows.uptoBulk]
  | map entries => simp [Rows.uptoBulk]
  | held h => simp [Rows.uptoBulk]
theorem sum_range {α : Type} (g : Nat → Nat) (k : α → Nat) : ∀ (ys : List α), (∀ i (h : i < ys.length), g i ≤ k (ys[i]'h)) → ((List.range ys.length).map g).sum ≤ (ys.map k).sum := by
  intro ys h
  have key : ∀ j, j ≤ ys.length → ((List.range j).map g).sum ≤ ((ys.take j).map k).sum := by
    intro j
    induction j with
    | zero => intro _; simp
    | succ j ih =>
      intro hj
      rw [List.range_succ, List.map_append, List.sum_append, sum_take k (by omega)]
      have h1 := ih (by omega)
      have h2 := h j (by omega)
      simp only [List.map_cons, List.map_nil, List.sum_cons, List.sum_nil]
      omega
  have := key ys.length (Nat.le_refl _)
  rw [List.take_length] at this
  exact this
section
variable {H : Type} {enc : TypeId × Value → H} {W : World} {base : Nat} {sp : Nat → Bool} {held : Bool}
theorem bulk_all (l : List (DataW H × List MemPlace)) : Rows.uptoBulkAll (l.map (·.1)) = (l.map fun y => Rows.uptoBulk y.1).sum := by
  induction l with
  | nil => simp [Rows.uptoBulkAll]
  | cons x l ih => simp only [List.map_cons, Rows.uptoBulkAll, List.sum_cons, ih]
/-- A slice that came in. -/
theorem open_slice {t e : TypeId} {sz : Nat} (ht : Tryz.prog.underlying t = some (.slice e)) (hsz : Tryz.prog.cellsOf e = sz) (h0 : 0 < sz) {fuel : Nat} {v : Value} {x : DataW H × List MemPlace} (hf : DataW.trod enc Tryz.prog W base sp held fuel t [v] = some x) :
    ∃ (n b off : Nat) (ys : List (DataW H × List MemPlace)) (m : Nat), m < fuel ∧ Sl W v n b off ∧ ys.length = n ∧ (∀ i (hy : i < ys.length), ∃ cs, cs.length = sz ∧ (∀ j u, cs[j]? = some u → W.cell? ⟨b, off + i * sz + j, none⟩ = some u) ∧ DataW.trod enc Tryz.prog W base sp held m e cs = some (ys[i]'hy)) ∧ (ys.map fun y => Rows.uptoBulk y.1).sum + 1 ≤ Rows.uptoBulk x.1 := by
  rcases DataW.trod_slice ht hf with ⟨hcs, hx⟩ | ⟨a, len, cap, elems, rest, n, hfu, hcs, hx, hb, hl, hcap, hel, hget, _⟩
  · have e := head_of hcs
    subst e
    have hfu : 0 < fuel := by
      cases fuel with
      | zero => simp [DataW.trod] at hf
      | succ _ => omega
    refine ⟨0, 0, 0, [], 0, hfu, ⟨none, 0, rfl, Nat.le_refl _, by decide, fun h => absurd h (by omega)⟩, rfl, fun i hi => absurd hi (by simp), ?_⟩
    rw [hx]
    simp [Rows.uptoBulk]
  · have e := head_of hcs
    subst e
    have hle : elems.length = len := by omega
    have hx1 : x.1 = DataW.slice (elems.map (·.1)) (rest.map (·.1)) := congrArg Prod.fst hx
    have key : ∀ i (hi : i < len), ∃ cs, cs.length = sz ∧ (∀ j, j < sz → W.cell? ((a.add (i * sz)).add j) = cs[j]?) ∧ DataW.trod enc Tryz.prog W base sp held n e cs = some (elems[i]'(by omega)) := fun i hi => by
      have h1 := hget i hi
      rw [hsz] at h1
      have h2 : elems[i]? = some (elems[i]'(by omega)) := List.getElem?_eq_getElem (by omega)
      rw [h2, Option.bind_eq_some_iff] at h1
      obtain ⟨cs, hc, ht⟩ := h1
      obtain ⟨_, hcl, hce⟩ := cells_each hc
      exact ⟨cs, hcl, hce, ht⟩
    obtain ⟨b, off, spot⟩ := a
    have hsp : 0 < len → spot = none ∧ b < W.heap.size := fun hp => by
      obtain ⟨cs, hcl, hce, _⟩ := key 0 hp
      have hc' := hce 0 h0
      rw [List.getElem?_eq_getElem (by omega)] at hc'
      have hspot : spot = none := by simpa [Addr.add] using World.cell?_spot hc'
      subst hspot
      have := World.block_lt_of_cell? W _ hc'
      exact ⟨rfl, by simpa [add_none] using this⟩
    refine ⟨len, b, off, elems, n, by omega, ⟨_, cap, rfl, hl, Nat.le_trans hcap (by decide), fun hp => ?_⟩, hle, fun i hy => ?_, ?_⟩
    · obtain ⟨h1, h2⟩ := hsp hp
      subst h1
      exact ⟨rfl, h2⟩
    · have hi : i < len := by omega
      obtain ⟨cs, hcl, hce, htr⟩ := key i hi
      obtain ⟨h1, _⟩ := hsp (by omega)
      subst h1
      refine ⟨cs, hcl, fun j u hu => ?_, htr⟩
      have hj : j < sz := by have := (List.getElem?_eq_some_iff.1 hu).1; omega
      have := hce j hj
      rw [add_none, add_none] at this
      rw [this]
      exact hu
    · rw [hx1]
      simp only [Rows.uptoBulk]
      rw [bulk_all]
      omega
theorem k3 : Tryz.prog.cellsOf 3 = 1 := by kernel_rfl
theorem k9 : Tryz.prog.cellsOf 9 = 1 := by kernel_rfl
theorem kk23 : Tryz.prog.cellsOf 23 = 1 := by kernel_rfl
theorem kk24 : Tryz.prog.cellsOf 24 = 1 := by kernel_rfl
theorem kk26 : Tryz.prog.cellsOf 26 = 2 := by kernel_rfl
theorem kk22 : Tryz.prog.cellsOf 22 = 1 := by kernel_rfl
theorem kk36 : Tryz.prog.cellsOf 36 = 7 := by kernel_rfl
theorem kk37 : Tryz.prog.cellsOf 37 = 1 := by kernel_rfl
theorem bulk_str (s : ByteArray) : Rows.uptoBulk (DataW.lit (H := H) (.string s.data.toList)) = s.size + 1 := by
  have e : s.data.toList.length = s.size := by rw [Array.length_toList]; rfl
  simp [Rows.uptoBulk]
/-- A simple selector that came in. -/
theorem open_simple {m : Nat} {cs : List Value} {y : DataW H × List MemPlace} (hf : DataW.trod enc Tryz.prog W base sp held m 36 cs = some y) (hl : cs.length = 7) :
    ∃ (s : S6) (lv : Value) (m' : Nat) (z : DataW H × List MemPlace), cs = s7 s lv ∧ m' < m ∧ DataW.trod enc Tryz.prog W base sp held m' 22 [lv] = some z ∧ 1 + (s.nm.size + s.v.size) + Rows.uptoBulk z.1 ≤ Rows.uptoBulk y.1 := by
  obtain ⟨y0, y1, y2, y3, y4, y5, y6, rfl⟩ : ∃ y0 y1 y2 y3 y4 y5 y6, cs = [y0, y1, y2, y3, y4, y5, y6] := by
    match cs, hl with
    | [a, b, c, d, e, f, g], _ => exact ⟨a, b, c, d, e, f, g, rfl⟩
  obtain ⟨xs, n, hmn, hx, hl2, hxl, hel⟩ := DataW.trod_struct Tryz.underlying36 hf
  have h0 := hel 0 _ rfl
  have h1 := hel 1 _ rfl
  have h2 := hel 2 _ rfl
  have h3 := hel 3 _ rfl
  have h4 := hel 4 _ rfl
  have h5 := hel 5 _ rfl
  have h6 := hel 6 _ rfl
  have hxl7 : xs.length = 7 := hxl
  obtain ⟨x0, x1, x2, x3, x4, x5, x6, rfl⟩ : ∃ x0 x1 x2 x3 x4 x5 x6, xs = [x0, x1, x2, x3, x4, x5, x6] := by
    match xs, hxl7 with
    | [a, b, c, d, e, f, g], _ => exact ⟨a, b, c, d, e, f, g, rfl⟩
  obtain ⟨k, a0, b0, _⟩ := DataW.trod_int Tryz.underlying3 h0
  obtain ⟨nm, a1, b1, _⟩ := DataW.trod_string Tryz.underlying9 h1
  obtain ⟨op, a2, b2, _⟩ := DataW.trod_int Tryz.underlying3 h2
  obtain ⟨vv, a3, b3, _⟩ := DataW.trod_string Tryz.underlying9 h3
  obtain ⟨aa, a4, b4, _⟩ := DataW.trod_int Tryz.underlying3 h4
  obtain ⟨bb, a5, b5, _⟩ := DataW.trod_int Tryz.underlying3 h5
  have e0 : y0 = .int .i64 k := head_of (by rw [← a0]; show _ = List.take (Tryz.prog.cellsOf 3) _; rw [k3]; rfl)
  have e1 : y1 = .string nm := head_of (by rw [← a1]; show _ = List.take (Tryz.prog.cellsOf 9) _; rw [k9]; rfl)
  have e2 : y2 = .int .i64 op := head_of (by rw [← a2]; show _ = List.take (Tryz.prog.cellsOf 3) _; rw [k3]; rfl)
  have e3 : y3 = .string vv := head_of (by rw [← a3]; show _ = List.take (Tryz.prog.cellsOf 9) _; rw [k9]; rfl)
  have e4 : y4 = .int .i64 aa := head_of (by rw [← a4]; show _ = List.take (Tryz.prog.cellsOf 3) _; rw [k3]; rfl)
  have e5 : y5 = .int .i64 bb := head_of (by rw [← a5]; show _ = List.take (Tryz.prog.cellsOf 3) _; rw [k3]; rfl)
  have h6' : DataW.trod enc Tryz.prog W base sp held n 22 [y6] = some x6 := by
    have e : List.take (Tryz.prog.cellsOf 22) (List.drop 6 [y0, y1, y2, y3, y4, y5, y6]) = [y6] := by rw [kk22]; rfl
    rw [← e]
    exact h6
  have hx1 : y.1 = DataW.agg ([x0, x1, x2, x3, x4, x5, x6].map (·.1)) := congrArg Prod.fst hx
  have q1 : x1.1 = .lit (.string nm.data.toList) := by rw [b1]
  have q3 : x3.1 = .lit (.string vv.data.toList) := by rw [b3]
  refine ⟨⟨k, nm, op, vv, aa, bb⟩, y6, n, x6, ?_, by omega, h6', ?_⟩
  · rw [e0, e1, e2, e3, e4, e5]
    rfl
  · rw [hx1]
    simp only [Rows.uptoBulk, List.map, Rows.uptoBulkAll]
    rw [q1, q3, bulk_str, bulk_str]
    show 1 + (nm.size + vv.size) + _ ≤ _
    omega
/-- A complex selector that came in: its two slices. -/
theorem open_two {m : Nat} {cs : List Value} {y : DataW H × List MemPlace} (hf : DataW.trod enc Tryz.prog W base sp held m 26 cs = some y) (hl : cs.length = 2) :
    ∃ (pv cv : Value) (m' : Nat) (z1 z2 : DataW H × List MemPlace), cs = [pv, cv] ∧ m' < m ∧ DataW.trod enc Tryz.prog W base sp held m' 23 [pv] = some z1 ∧ DataW.trod enc Tryz.prog W base sp held m' 24 [cv] = some z2 ∧ 1 + Rows.uptoBulk z1.1 + Rows.uptoBulk z2.1 ≤ Rows.uptoBulk y.1 := by
  obtain ⟨y0, y1, rfl⟩ : ∃ y0 y1, cs = [y0, y1] := by
    match cs, hl with
    | [a, b], _ => exact ⟨a, b, rfl⟩
  obtain ⟨xs, n, hmn, hx, hl2, hxl, hel⟩ := DataW.trod_struct Tryz.underlying26 hf
  have h0 := hel 0 _ rfl
  have h1 := hel 1 _ rfl
  have hxl2 : xs.length = 2 := hxl
  obtain ⟨x0, x1, rfl⟩ : ∃ x0 x1, xs = [x0, x1] := by
    match xs, hxl2 with
    | [a, b], _ => exact ⟨a, b, rfl⟩
  have h0' : DataW.trod enc Tryz.prog W base sp held n 23 [y0] = some x0 := by
    have e : List.take (Tryz.prog.cellsOf 23) (List.drop 0 [y0, y1]) = [y0] := by rw [kk23]; rfl
    rw [← e]
    exact h0
  have h1' : DataW.trod enc Tryz.prog W base sp held n 24 [y1] = some x1 := by
    have e : List.take (Tryz.prog.cellsOf 24) (List.drop 1 [y0, y1]) = [y1] := by rw [kk24]; rfl
    rw [← e]
    exact h1
  have hx1 : y.1 = DataW.agg ([x0, x1].map (·.1)) := congrArg Prod.fst hx
  refine ⟨y0, y1, n, x0, x1, rfl, by omega, h0', h1', ?_⟩
  rw [hx1]
  simp only [Rows.uptoBulk, List.map, Rows.uptoBulkAll]
  omega
/-- Combs that came in. -/
theorem open_combs {m : Nat} {cv : Value} {z : DataW H × List MemPlace} (hf : DataW.trod enc Tryz.prog W base sp held m 24 [cv] = some z) :
    ∃ (ks : List Int) (b off : Nat), Sl W cv ks.length b off ∧ (∀ t (h : t < ks.length), W.cell? ⟨b, off + t, none⟩ = some (.int .i64 (ks[t]'h))) ∧ ks.length + 1 ≤ Rows.uptoBulk z.1 := by
  obtain ⟨n, b, off, ys, m1, _, hS, hy, hel, hbk⟩ := open_slice Tryz.underlying24 k3 (by decide) hf
  subst hy
  have key : ∀ i, i < ys.length → ∃ k : Int, W.cell? ⟨b, off + i, none⟩ = some (.int .i64 k) ∧ ∀ h : i < ys.length, 1 ≤ Rows.uptoBulk (ys[i]'h).1 := fun i hi => by
    obtain ⟨cs, hl, hc, htr⟩ := hel i hi
    obtain ⟨k, a0, b0, _⟩ := DataW.trod_int Tryz.underlying3 htr
    refine ⟨k, ?_, fun h => bulk_one _⟩
    have := hc 0 (.int .i64 k) (by rw [a0]; rfl)
    simpa using this
  obtain ⟨f, hfi⟩ := collect 0 key
  have hll : ((List.range ys.length).map f).length = ys.length := by simp
  refine ⟨(List.range ys.length).map f, b, off, by rw [hll]; exact hS, fun t h => ?_, ?_⟩
  · rw [hll] at h
    rw [(hfi t h).1]
    simp
  · have h1 := sum_range (fun _ => 1) (fun y : DataW H × List MemPlace => Rows.uptoBulk y.1) ys (fun i h => (hfi i h).2 h)
    have h2 : ∀ n, ((List.range n).map fun _ => 1).sum = n := fun n => by
      induction n with
      | zero => rfl
      | succ n ih => rw [List.range_succ, List.map_append, List.sum_append, ih]; rfl
    have h3 := h2 ys.length
    rw [hll]
    omega
/-- A Part that came in. -/
theorem open_part {M m : Nat} (hM : m ≤ M) (ih : ∀ m', m' < M → ∀ (v : Value) (x : DataW H × List MemPlace), DataW.trod enc Tryz.prog W base sp held m' 22 [v] = some x → ∃ l, ClAt W v l ∧ ∀ d, wt d l ≤ Rows.uptoBulk x.1) {q : Value} {z : DataW H × List MemPlace} (hf : DataW.trod enc Tryz.prog W base sp held m 37 [q] = some z) :
    ∃ (p : List (S6 × List Cx)) (b off : Nat) (lv : Nat → Value), Sl W q p.length b off ∧ (∀ t (h : t < p.length), ∀ y u, (s7 (p[t]'h).1 (lv t))[y]? = some u → W.cell? ⟨b, off + t * 7 + y, none⟩ = some u) ∧ (∀ t (h : t < p.length), ClAt W (lv t) (p[t]'h).2) ∧ ∀ d, wtP (wt d) p ≤ Rows.uptoBulk z.1 := by
  obtain ⟨n, b, off, ys, m1, hm1, hS, hy, hel, hbk⟩ := open_slice Tryz.underlying37 kk36 (by decide) hf
  subst hy
  have key : ∀ i, i < ys.length → ∃ e : S6 × Value × List Cx, (∀ y u, (s7 e.1 e.2.1)[y]? = some u → W.cell? ⟨b, off + i * 7 + y, none⟩ = some u) ∧ ClAt W e.2.1 e.2.2 ∧ ∀ (h : i < ys.length) (d : Nat), wtS (wt d) (e.1, e.2.2) ≤ Rows.uptoBulk (ys[i]'h).1 := fun i hi => by
    obtain ⟨cs, hl, hc, htr⟩ := hel i hi
    obtain ⟨s, lv, m', z', rfl, hm', hz', hb'⟩ := open_simple htr hl
    obtain ⟨l, h1, h2⟩ := ih m' (by omega) lv z' hz'
    refine ⟨(s, lv, l), hc, h1, fun h d => ?_⟩
    have h3 := h2 d
    unfold wtS
    dsimp only
    omega
  obtain ⟨f, hfi⟩ := collect (s60, .slice none 0 0, []) key
  have hll : ((List.range ys.length).map fun t => ((f t).1, (f t).2.2)).length = ys.length := by simp
  have hget : ∀ t (h : t < ((List.range ys.length).map fun t => ((f t).1, (f t).2.2)).length), ((List.range ys.length).map fun t => ((f t).1, (f t).2.2))[t]'h = ((f t).1, (f t).2.2) := fun t h => by simp
  refine ⟨(List.range ys.length).map fun t => ((f t).1, (f t).2.2), b, off, fun t => (f t).2.1, by rw [hll]; exact hS, fun t h y u hu => ?_, fun t h => ?_, fun d => ?_⟩
  · rw [hget t h] at hu
    rw [hll] at h
    exact (hfi t h).1 y u hu
  · rw [hget t h]
    rw [hll] at h
    exact (hfi t h).2.1
  · have h1 := sum_range (fun t => wtS (wt d) ((f t).1, (f t).2.2)) (fun y : DataW H × List MemPlace => Rows.uptoBulk y.1) ys (fun i h => (hfi i h).2.2 h d)
    unfold wtP
    rw [List.map_map]
    have h2 : ((List.range ys.length).map (wtS (wt d) ∘ fun t => ((f t).1, (f t).2.2))).sum = ((List.range ys.length).map fun t => wtS (wt d) ((f t).1, (f t).2.2)).sum := rfl
    omega
/-- A complex selector that came in. -/
theorem open_cx {M m : Nat} (hM : m ≤ M) (ih : ∀ m', m' < M → ∀ (v : Value) (x : DataW H × List MemPlace), DataW.trod enc Tryz.prog W base sp held m' 22 [v] = some x → ∃ l, ClAt W v l ∧ ∀ d, wt d l ≤ Rows.uptoBulk x.1) {cs : List Value} {y : DataW H × List MemPlace} (hf : DataW.trod enc Tryz.prog W base sp held m 26 cs = some y) (hl : cs.length = 2) :
    ∃ (pv cv : Value) (c : Cx) (bc oc bp op : Nat) (qv : Nat → Value) (bq oq : Nat → Nat) (lv : Nat → Nat → Value), cs = [pv, cv] ∧ CxAt (ClAt W) W pv cv c bc oc bp op qv bq oq lv ∧ ∀ d, wtC (wt d) c ≤ Rows.uptoBulk y.1 := by
  obtain ⟨pv, cv, m', z1, z2, rfl, hm', hz1, hz2, hb⟩ := open_two hf hl
  obtain ⟨ks, bc, oc, hc1, hc2, hc3⟩ := open_combs hz2
  obtain ⟨n, bp, op, ys, m1, hm1, hS, hy, hel, hbk⟩ := open_slice Tryz.underlying23 kk37 (by decide) hz1
  subst hy
  have key : ∀ j, j < ys.length → ∃ e : Value × List (S6 × List Cx) × Nat × Nat × (Nat → Value), W.cell? ⟨bp, op + j, none⟩ = some e.1 ∧ Sl W e.1 e.2.1.length e.2.2.1 e.2.2.2.1 ∧ (∀ t (h : t < e.2.1.length), ∀ y u, (s7 (e.2.1[t]'h).1 (e.2.2.2.2 t))[y]? = some u → W.cell? ⟨e.2.2.1, e.2.2.2.1 + t * 7 + y, none⟩ = some u) ∧ (∀ t (h : t < e.2.1.length), ClAt W (e.2.2.2.2 t) (e.2.1[t]'h).2) ∧ ∀ (h : j < ys.length) (d : Nat), wtP (wt d) e.2.1 ≤ Rows.uptoBulk (ys[j]'h).1 := fun j hj => by
    obtain ⟨cs, hl, hc, htr⟩ := hel j hj
    obtain ⟨q, rfl⟩ : ∃ q, cs = [q] := by
      match cs, hl with
      | [a], _ => exact ⟨a, rfl⟩
    obtain ⟨p, b, off, lv, h1, h2, h3, h4⟩ := open_part (M := M) (by omega) ih htr
    refine ⟨(q, p, b, off, lv), ?_, h1, h2, h3, fun _ d => h4 d⟩
    have := hc 0 q rfl
    simpa using this
  obtain ⟨f, hfi⟩ := collect (.slice none 0 0, [], 0, 0, fun _ => .slice none 0 0) key
  have hll : ((List.range ys.length).map fun j => (f j).2.1).length = ys.length := by simp
  have hget : ∀ j (h : j < ((List.range ys.length).map fun j => (f j).2.1).length), ((List.range ys.length).map fun j => (f j).2.1)[j]'h = (f j).2.1 := fun j h => by simp
  refine ⟨pv, cv, .mk ((List.range ys.length).map fun j => (f j).2.1) ks, bc, oc, bp, op, fun j => (f j).1, fun j => (f j).2.2.1, fun j => (f j).2.2.2.1, fun j => (f j).2.2.2.2, rfl, ⟨hc1, hc2, ?_, ?_, ?_, ?_, ?_⟩, fun d => ?_⟩
  · show Sl W pv ((List.range ys.length).map fun j => (f j).2.1).length bp op
    rw [hll]
    exact hS
  · intro j hj
    have hj' : j < ys.length := by rw [← hll]; exact hj
    exact (hfi j hj').1
  · intro j hj
    have hj' : j < ys.length := by rw [← hll]; exact hj
    have e := hget j hj
    show Sl W (f j).1 (((List.range ys.length).map fun j => (f j).2.1)[j]'hj).length _ _
    rw [e]
    exact (hfi j hj').2.1
  · intro j hj t ht y u hu
    have hj' : j < ys.length := by rw [← hll]; exact hj
    have e := hget j hj
    have ht' : t < (f j).2.1.length := by
      have h9 : t < (((List.range ys.length).map fun j => (f j).2.1)[j]'hj).length := ht
      rw [e] at h9
      exact h9
    have hu' : (s7 ((f j).2.1[t]'ht').1 ((f j).2.2.2.2 t))[y]? = some u := by
      have h9 : (s7 ((((List.range ys.length).map fun j => (f j).2.1)[j]'hj)[t]'ht).1 ((f j).2.2.2.2 t))[y]? = some u := hu
      rw [get_eq e ht ht'] at h9
      exact h9
    exact (hfi j hj').2.2.1 t ht' y u hu'
  · intro j hj t ht
    have hj' : j < ys.length := by rw [← hll]; exact hj
    have e := hget j hj
    have ht' : t < (f j).2.1.length := by
      have h9 : t < (((List.range ys.length).map fun j => (f j).2.1)[j]'hj).length := ht
      rw [e] at h9
      exact h9
    show ClAt W ((f j).2.2.2.2 t) ((((List.range ys.length).map fun j => (f j).2.1)[j]'hj)[t]'ht).2
    rw [get_eq e ht ht']
    exact (hfi j hj').2.2.2.1 t ht'
  · have h1 := sum_range (fun j => wtP (wt d) (f j).2.1) (fun y : DataW H × List MemPlace => Rows.uptoBulk y.1) ys (fun j h => (hfi j h).2.2.2.2 h d)
    show 1 + ks.length + ((((List.range ys.length).map fun j => (f j).2.1)).map (wtP (wt d))).sum ≤ _
    rw [List.map_map]
    have h2 : ((List.range ys.length).map (wtP (wt d) ∘ fun j => (f j).2.1)).sum = ((List.range ys.length).map fun j => wtP (wt d) (f j).2.1).sum := rfl
    omega
/-- Selectors that came in: a tree, not more than its bulk. -/
theorem open_cl (fuel : Nat) : ∀ (v : Value) (x : DataW H × List MemPlace), DataW.trod enc Tryz.prog W base sp held fuel 22 [v] = some x → ∃ l, ClAt W v l ∧ ∀ d, wt d l ≤ Rows.uptoBulk x.1 := by
  induction fuel using Nat.strongRecOn with
  | _ fuel ih =>
    intro v x hf
    obtain ⟨n, b, off, ys, m1, hm1, hS, hy, hel, hbk⟩ := open_slice Tryz.underlying22 kk26 (by decide) hf
    subst hy
    have key : ∀ i, i < ys.length → ∃ e : (Value × Value × Cx) × (Nat × Nat × Nat × Nat) × (Nat → Value) × (Nat → Nat) × (Nat → Nat) × (Nat → Nat → Value), (W.cell? ⟨b, off + i * 2, none⟩ = some e.1.1 ∧ W.cell? ⟨b, off + i * 2 + 1, none⟩ = some e.1.2.1) ∧ CxAt (ClAt W) W e.1.1 e.1.2.1 e.1.2.2 e.2.1.1 e.2.1.2.1 e.2.1.2.2.1 e.2.1.2.2.2 e.2.2.1 e.2.2.2.1 e.2.2.2.2.1 e.2.2.2.2.2 ∧ ∀ (h : i < ys.length) (d : Nat), wtC (wt d) e.1.2.2 ≤ Rows.uptoBulk (ys[i]'h).1 := fun i hi => by
      obtain ⟨cs, hl, hc, htr⟩ := hel i hi
      obtain ⟨pv, cv, c, bc, oc, bp, op, qv, bq, oq, lv, rfl, h1, h2⟩ := open_cx (M := fuel) (by omega) (fun m' hm' v x h => ih m' hm' v x h) htr hl
      exact ⟨((pv, cv, c), (bc, oc, bp, op), qv, bq, oq, lv), ⟨by simpa using hc 0 pv rfl, hc 1 cv rfl⟩, h1, fun _ d => h2 d⟩
    obtain ⟨f, hfi⟩ := collect ((.slice none 0 0, .slice none 0 0, .mk [] []), (0, 0, 0, 0), (fun _ => .slice none 0 0), (fun _ => 0), (fun _ => 0), (fun _ _ => .slice none 0 0)) key
    have hll : ((List.range ys.length).map fun i => (f i).1.2.2).length = ys.length := by simp
    have hget : ∀ i (h : i < ((List.range ys.length).map fun i => (f i).1.2.2).length), ((List.range ys.length).map fun i => (f i).1.2.2)[i]'h = (f i).1.2.2 := fun i h => by simp
    refine ⟨(List.range ys.length).map fun i => (f i).1.2.2, ?_, fun d => ?_⟩
    · have CX : ∀ i (h : i < ((List.range ys.length).map fun i => (f i).1.2.2).length), CxAt (ClAt W) W (f i).1.1 (f i).1.2.1 (((List.range ys.length).map fun i => (f i).1.2.2)[i]'h) (f i).2.1.1 (f i).2.1.2.1 (f i).2.1.2.2.1 (f i).2.1.2.2.2 (f i).2.2.1 (f i).2.2.2.1 (f i).2.2.2.2.1 (f i).2.2.2.2.2 := fun i h => by
        rw [hget i h]
        rw [hll] at h
        exact (hfi i h).2.1
      refine .mk v _ b off (fun i => (f i).1.1) (fun i => (f i).1.2.1) (fun i => (f i).2.1.1) (fun i => (f i).2.1.2.1) (fun i => (f i).2.1.2.2.1) (fun i => (f i).2.1.2.2.2) (fun i => (f i).2.2.1) (fun i => (f i).2.2.2.1) (fun i => (f i).2.2.2.2.1) (fun i => (f i).2.2.2.2.2) (by rw [hll]; exact hS) (fun i h => (hfi i (by rw [hll] at h; exact h)).1) (fun i h => (CX i h).cs) (fun i h => (CX i h).cc) (fun i h => (CX i h).ps) (fun i h => (CX i h).pc) (fun i h => (CX i h).qs) (fun i h => (CX i h).qc) (fun i h => (CX i h).ls)
    · cases d with
      | zero => exact Nat.zero_le _
      | succ d =>
        have h1 := sum_range (fun i => wtC (wt d) (f i).1.2.2) (fun y : DataW H × List MemPlace => Rows.uptoBulk y.1) ys (fun i h => (hfi i h).2.2 h d)
        show ((((List.range ys.length).map fun i => (f i).1.2.2)).map (wtC (wt d))).sum ≤ _
        rw [List.map_map]
        have h2 : ((List.range ys.length).map (wtC (wt d) ∘ fun i => (f i).1.2.2)).sum = ((List.range ys.length).map fun i => wtC (wt d) (f i).1.2.2).sum := rfl
        omega
end
end Go.Proofs.YtbeolmofnmnknaaGreatDoor.L
namespace Go.Proofs.YtbeolmofnmnknaaGreatDoor.L
open Go.ChangeShapes Go.WideShapes Go.ChangeAt Go.RowKit
set_option maxRecDepth 100000

theorem k128 : Tryz.prog.cellsOf 128 = 3 := by kernel_rfl
theorem k129 : Tryz.prog.cellsOf 129 = 45 := by kernel_rfl
theorem chunks : ∀ (n : Nat) (a b : List Value), a.length = 3 * n → b.length = 3 * n → (∀ i, i < n → (a.drop (i * 3)).take 3 = (b.drop (i * 3)).take 3) → a = b
  | 0, a, b, ha, hb, _ => by rw [List.length_eq_zero_iff.1 (by omega : a.length = 0), List.length_eq_zero_iff.1 (by omega : b.length = 0)]
  | n + 1, a, b, ha, hb, h => by
    have h0 := h 0 (by omega)
    rw [Nat.zero_mul, List.drop_zero, List.drop_zero] at h0
    have ih := chunks n (a.drop 3) (b.drop 3) (by rw [List.length_drop]; omega) (by rw [List.length_drop]; omega) fun i hi => by
      have := h (i + 1) (by omega)
      rw [List.drop_drop, List.drop_drop, show 3 + i * 3 = (i + 1) * 3 by omega]
      exact this
    rw [← List.take_append_drop 3 a, ← List.take_append_drop 3 b, h0, ih]
section
variable {H : Type} {enc : TypeId × Value → H} {W : World} {base : Nat} {sp : Nat → Bool} {held : Bool}
theorem row3 {m : Nat} {cs : List Value} {a b : Int} {s : List UInt8} {p : List MemPlace} (hf : DataW.trod enc Tryz.prog W base sp held m 128 cs = some (.agg [.lit (.int .i64 a), .lit (.int .i64 b), .lit (.string s)], p)) (hl : cs.length = 3) : cs = [.int .i64 a, .int .i64 b, .string ⟨s.toArray⟩] := by
  obtain ⟨y0, y1, y2, rfl⟩ : ∃ y0 y1 y2, cs = [y0, y1, y2] := by
    match cs, hl with
    | [a, b, c], _ => exact ⟨a, b, c, rfl⟩
  obtain ⟨xs, n, hmn, hx, hl2, hxl, hel⟩ := DataW.trod_struct Tryz.underlying128 hf
  have h0 := hel 0 _ rfl
  have h1 := hel 1 _ rfl
  have h2 := hel 2 _ rfl
  have hxl3 : xs.length = 3 := hxl
  obtain ⟨x0, x1, x2, rfl⟩ : ∃ x0 x1 x2, xs = [x0, x1, x2] := by
    match xs, hxl3 with
    | [a, b, c], _ => exact ⟨a, b, c, rfl⟩
  obtain ⟨k, a0, b0, _⟩ := DataW.trod_int Tryz.underlying3 h0
  obtain ⟨l, a1, b1, _⟩ := DataW.trod_int Tryz.underlying3 h1
  obtain ⟨nm, a2, b2, _⟩ := DataW.trod_string Tryz.underlying9 h2
  have e0 : y0 = .int .i64 k := head_of (by rw [← a0]; show _ = List.take (Tryz.prog.cellsOf 3) _; rw [k3]; rfl)
  have e1 : y1 = .int .i64 l := head_of (by rw [← a1]; show _ = List.take (Tryz.prog.cellsOf 3) _; rw [k3]; rfl)
  have e2 : y2 = .string nm := head_of (by rw [← a2]; show _ = List.take (Tryz.prog.cellsOf 9) _; rw [k9]; rfl)
  have hx1 := congrArg Prod.fst hx
  simp only [List.map_cons, List.map_nil] at hx1
  subst b0 b1 b2
  simp only [DataW.agg.injEq, List.cons.injEq, DataW.lit.injEq, Lit.int.injEq, Lit.string.injEq, true_and, and_true] at hx1
  obtain ⟨g0, g1, g2⟩ := hx1
  rw [e0, e1, e2, g0, g1, g2]
end
theorem sgn_len : sgnC.length = 45 := rfl
theorem signs_of {W : World} {fuel : Nat} {cs : List Value} {p : List MemPlace} (h : DataW.trod (fun _ => ()) Tryz.prog W 0 (fun _ => true) false fuel 129 cs = some (Rows.laid_gouache_selector_signs, p)) : cs = sgnC := by
  obtain ⟨xs, m, _, hx, hl, hxl, hel⟩ := DataW.trod_array Tryz.underlying129 h
  rw [k129] at hl
  have hx1 := congrArg Prod.fst hx
  simp only [] at hx1
  have hx2 : ∀ i (hi : i < xs.length), some ((xs[i]'hi).1) = (xs.map (·.1))[i]? := fun i hi => by rw [List.getElem?_map, List.getElem?_eq_getElem hi]; rfl
  unfold Rows.laid_gouache_selector_signs at hx1
  injection hx1 with hx1
  refine chunks 15 cs sgnC hl sgn_len fun i hi => ?_
  have h1 := hel i hi
  rw [k128, List.getElem?_eq_getElem (by omega)] at h1
  have h2 := hx2 i (by omega)
  rw [← hx1] at h2
  have hcl : ((cs.drop (i * 3)).take 3).length = 3 := by rw [List.length_take, List.length_drop, hl]; omega
  obtain ⟨⟨xd, xp⟩, hxi⟩ : ∃ y, y = xs[i]'(by omega) := ⟨_, rfl⟩
  rw [← hxi] at h1 h2
  simp only [] at h2
  have hc : i = 0 ∨ i = 1 ∨ i = 2 ∨ i = 3 ∨ i = 4 ∨ i = 5 ∨ i = 6 ∨ i = 7 ∨ i = 8 ∨ i = 9 ∨ i = 10 ∨ i = 11 ∨ i = 12 ∨ i = 13 ∨ i = 14 := by omega
  clear hxi
  rcases hc with rfl | rfl | rfl | rfl | rfl | rfl | rfl | rfl | rfl | rfl | rfl | rfl | rfl | rfl | rfl
  all_goals
    have h3 := Option.some.inj h2
    subst h3
    exact row3 h1 hcl
def laid3 : List (String × DataW Unit) := [("unicode/utf8.acceptRanges", Rows.laid_unicode_utf8_acceptRanges), ("gouache/selector.signs", Rows.laid_gouache_selector_signs), ("unicode/utf8.first", Rows.laid_unicode_utf8_first)]
theorem gsg : Tryz.prog.globalNamed "gouache/selector.signs" = some 1 := by kernel_rfl
theorem tsg : (Tryz.prog.globals[1]?).map (·.type) = some 129 := by kernel_rfl
theorem of_laid {W : World} (h : laidMetH Tryz.prog laid3 W) : Signs W := by
  rw [MakeChecks.laidMetH_plain _ _ _ (by kernel_rfl)] at h
  obtain ⟨ps, ⟨g0, t0, cs0, f0, p0, q0, hg0, ht0, hv0, hd0, ⟨g1, t1, cs1, f1, p1, q1, hg1, ht1, hv1, hd1, _, _⟩, _⟩, _, _⟩ := h
  obtain rfl := Option.some.inj (gsg.symm.trans hg1)
  obtain rfl := Option.some.inj (tsg.symm.trans ht1)
  have e := signs_of hd1
  intro j v hv
  have := World.var?_cell gsg hv1 j
  rw [Nat.zero_add]
  refine this.trans ?_
  rw [← e] at hv
  simpa using hv
end Go.Proofs.YtbeolmofnmnknaaGreatDoor.L
