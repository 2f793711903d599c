/- The document's Weight of selectors. -/
import Derived.Test.YtdiljkmlneeboaaSel
import Derived.Test.YtdiljkmlneeboaaAsk
namespace Go.Proofs.Ytdiljkmlneeboaa
open Go.RowKit
set_option maxRecDepth 100000

theorem sum_mono {α : Type} {f g : α → Nat} (h : ∀ x, f x ≤ g x) : ∀ l : List α, (l.map f).sum ≤ (l.map g).sum
  | [] => Nat.le_refl _
  | x :: l => by
    simp only [List.map_cons, List.sum_cons]
    have := h x
    have := sum_mono h l
    omega
theorem wtS_mono {f g : List Cx → Nat} (h : ∀ l, f l ≤ g l) (x : S6 × List Cx) : wtS f x ≤ wtS g x := by unfold wtS; have := h x.2; omega
theorem wtP_mono {f g : List Cx → Nat} (h : ∀ l, f l ≤ g l) (p : List (S6 × List Cx)) : wtP f p ≤ wtP g p := by unfold wtP; have := sum_mono (wtS_mono h) p; omega
theorem wtC_mono {f g : List Cx → Nat} (h : ∀ l, f l ≤ g l) (c : Cx) : wtC f c ≤ wtC g c := by unfold wtC; have := sum_mono (wtP_mono h) c.parts; omega
theorem wt_succ : ∀ d l, wt d l ≤ wt (d + 1) l
  | 0, _ => Nat.zero_le _
  | d + 1, l => sum_mono (wtC_mono (wt_succ d)) l
theorem wt_le {d d' : Nat} (h : d ≤ d') (l : List Cx) : wt d l ≤ wt d' l := by
  induction h with
  | refl => exact Nat.le_refl _
  | step _ ih => exact Nat.le_trans ih (wt_succ _ l)
theorem mem_sum {α : Type} (f : α → Nat) {l : List α} {i : Nat} (h : i < l.length) : f l[i] ≤ (l.map f).sum := by
  have h1 := sum_take f h
  have h2 := sum_take_le f l (i + 1)
  omega
/-- Ahead of the i-th complex one; ahead of its j-th Part; ahead of that one's t-th. -/
def wA (l : List Cx) (i d : Nat) : Nat := ((l.take i).map (wtC (wt d))).sum
def wB (c : Cx) (j d : Nat) : Nat := 1 + c.combs.length + ((c.parts.take j).map (wtP (wt d))).sum
def wE (p : List (S6 × List Cx)) (t d : Nat) : Nat := 1 + ((p.take t).map (wtS (wt d))).sum
theorem wA_mono (l : List Cx) (i : Nat) {d d' : Nat} (h : d ≤ d') : wA l i d ≤ wA l i d' := sum_mono (wtC_mono (wt_le h)) _
theorem wB_mono (c : Cx) (j : Nat) {d d' : Nat} (h : d ≤ d') : wB c j d ≤ wB c j d' := by
  unfold wB; have := sum_mono (wtP_mono (wt_le h)) (c.parts.take j); omega
theorem wE_mono (p : List (S6 × List Cx)) (t : Nat) {d d' : Nat} (h : d ≤ d') : wE p t d ≤ wE p t d' := by
  unfold wE; have := sum_mono (wtS_mono (wt_le h)) (p.take t); omega
theorem wA_succ {l : List Cx} {i : Nat} (h : i < l.length) (d : Nat) : wA l (i + 1) d = wA l i d + wB l[i] l[i].parts.length d := by
  unfold wA wB
  rw [sum_take _ h, List.take_length]
  rfl
theorem wB_succ {c : Cx} {j : Nat} (h : j < c.parts.length) (d : Nat) : wB c (j + 1) d = wB c j d + wE c.parts[j] c.parts[j].length d := by
  unfold wB wE
  rw [sum_take _ h, List.take_length]
  show _ = _ + wtP (wt d) c.parts[j]
  omega
theorem wE_succ {p : List (S6 × List Cx)} {t : Nat} (h : t < p.length) (d : Nat) : wE p (t + 1) d = wE p t d + (1 + (p[t].1.nm.size + p[t].1.v.size) / 20 + wt d p[t].2) := by
  unfold wE
  rw [sum_take _ h]
  show _ = _ + wtS (wt d) p[t]
  omega
theorem wB_le (c : Cx) (j d : Nat) : wB c j d ≤ wB c c.parts.length d := by
  unfold wB; have := sum_take_le (wtP (wt d)) c.parts j; rw [List.take_length]; omega
theorem wE_le (p : List (S6 × List Cx)) (t d : Nat) : wE p t d ≤ wE p p.length d := by
  unfold wE; have := sum_take_le (wtS (wt d)) p t; rw [List.take_length]; omega
theorem wA_le (l : List Cx) (i d : Nat) : wA l i d ≤ wt (d + 1) l := sum_take_le _ l i
theorem wA_all (l : List Cx) (d : Nat) : wA l l.length d = wt (d + 1) l := by unfold wA; rw [List.take_length]; rfl
/-- All that lies ahead of a simple one, with it, is within the whole. -/
theorem within_all {l : List Cx} {i j t : Nat} (hi : i < l.length) (hj : j < l[i].parts.length) (_ : t < l[i].parts[j].length) (d : Nat) : wA l i d + wB l[i] j d + wE l[i].parts[j] (t + 1) d ≤ wt (d + 1) l := by
  have h1 := wE_le l[i].parts[j] (t + 1) d
  have h2 := wB_succ hj d
  have h3 := wB_le l[i] (j + 1) d
  have h4 := wA_succ hi d
  have h5 := wA_le l (i + 1) d
  omega
theorem within_part {l : List Cx} {i j : Nat} (hi : i < l.length) (hj : j < l[i].parts.length) (t d : Nat) : wA l i d + wB l[i] j d + wE l[i].parts[j] t d ≤ wt (d + 1) l := by
  have h1 := wE_le l[i].parts[j] t d
  have h2 := wB_succ hj d
  have h3 := wB_le l[i] (j + 1) d
  have h4 := wA_succ hi d
  have h5 := wA_le l (i + 1) d
  omega
theorem within_cx {l : List Cx} {i : Nat} (hi : i < l.length) (j d : Nat) : wA l i d + wB l[i] j d ≤ wt (d + 1) l := by
  have h3 := wB_le l[i] j d
  have h4 := wA_succ hi d
  have h5 := wA_le l (i + 1) d
  omega
/-- What Weight answers. -/
def WtP (most : Int) (l : List Cx) (W : World) (e : Ending) (w' : World) : Prop := ∃ r : Nat, e = .returned (.int .i64 (r : Int)) ∧ (∃ d, r ≤ wt d l) ∧ ((r : Int) ≤ most → ∀ d, wt d l ≤ r) ∧ Below W.heap.size W w'
/-- What the walk knows between the rounds. -/
def NB (most : Int) (n : Nat) (X : Nat → Nat) : Prop := (∃ d, n ≤ X d) ∧ ((n : Int) ≤ most → ∀ d, X d ≤ n)
set_option maxHeartbeats 8000000 in
theorem weight_any {W : World} {v : Value} {l : List Cx} (h : ClAt W v l) : ∀ (most : Int) (_ : 0 ≤ most) (_ : most ≤ 1000000) (_ : ∀ d, wt d l ≤ 10000000) (w : World) (_ : Below W.heap.size W w), Calls Try.prog 13 #[v, .int .i64 most] w (WtP most l w) := by
  induction h with
  | mk v l b off pv cv bc oc bp op qv bq oq lv hs hc h1 h2 h3 h4 h5 h6 hr ih =>
    intro most hm0 hm1 hb w hW
    have HAT : Hid (∀ w', Below w.heap.size w w' → ∀ i (hi : i < l.length), w'.cell? ⟨b, off + i * 2, none⟩ = some (pv i) ∧ w'.cell? ⟨b, off + i * 2 + 1, none⟩ = some (cv i)) := fun w' hw' i hi => by
      have hB := hW.trans (hw'.mono hW.size)
      rw [hs.cell hB (by omega), hs.cell hB (by omega)]
      exact hc i hi
    have HPC : Hid (∀ w', Below w.heap.size w w' → ∀ i (hi : i < l.length) j, j < l[i].parts.length → w'.cell? ⟨bp i, op i + j, none⟩ = some (qv i j)) := fun w' hw' i hi j hj => by
      rw [(h3 i hi).cell (hW.trans (hw'.mono hW.size)) (by omega)]
      exact h4 i hi j hj
    have HQC : Hid (∀ w', Below w.heap.size w w' → ∀ i (hi : i < l.length) j (hj : j < l[i].parts.length) t (ht : t < l[i].parts[j].length), ∀ y u, (s7 l[i].parts[j][t].1 (lv i j t))[y]? = some u → w'.cell? ⟨bq i j, oq i j + t * 7 + y, none⟩ = some u) := fun w' hw' i hi j hj t ht y u hu => by
      rw [(h5 i hi j hj).cell (hW.trans (hw'.mono hW.size)) (by omega)]
      exact h6 i hi j hj t ht y u hu
    have HLS : Hid (∀ i (hi : i < l.length) j (hj : j < l[i].parts.length) t (ht : t < l[i].parts[j].length), ∃ la ln lc, lv i j t = .slice la ln lc) := fun i hi j hj t ht => by
      obtain ⟨_, _, ⟨la, lc, e, _⟩, _⟩ := (hr i hi j hj t ht).at
      exact ⟨la, _, lc, e⟩
    have HIH : Hid (∀ w', Below w.heap.size w w' → ∀ i (hi : i < l.length) j (hj : j < l[i].parts.length) t (ht : t < l[i].parts[j].length), Calls Try.prog 13 #[lv i j t, .int .i64 most] w' (WtP most l[i].parts[j][t].2 w')) := fun w' hw' i hi j hj t ht => ih i hi j hj t ht most hm0 hm1 (fun d => by
      have q1 := within_all hi hj ht d
      have q2 := wE_succ ht d
      have q3 := hb (d + 1)
      omega) w' (hW.trans (hw'.mono hW.size))
    have HB := hid_mk hb
    have H3 := hid_mk h3
    have H1 := hid_mk h1
    have H5 := hid_mk h5
    obtain ⟨a, cap, rfl, hcn, hcm, hsa⟩ := hs
    have hln : l.length ≤ 9223372036854775807 := by omega
    have HSA := hid_mk hsa
    have HBW := hid_mk (Below.refl w.heap.size w)
    clear hc h1 h2 h3 h4 h5 h6 hr ih hb hsa
    go_enter Try.func13, Try.ntmps13
    go_wp2
    go_loopw [5, 14] (fun a5 a14 wq => ∃ i n : Nat, i ≤ l.length ∧ n ≤ 10000000 ∧ a5 = .int .i64 (n : Int) ∧ a14 = .int .i64 (i : Int) ∧ Hid (NB most n (wA l i)) ∧ Hid (Below w.heap.size w wq)) (fun _ a14 _ => l.length + 1 - (intOf a14).toNat)
    case atStart => exact ⟨0, 0, Nat.zero_le _, Nat.zero_le _, rfl, rfl, ⟨⟨0, Nat.zero_le _⟩, fun _ d => by simp [wA]⟩, HBW⟩
    case round =>
      obtain ⟨i, n, hi, hn, rfl, rfl, HN, HBi⟩ := hrel
      by_cases hil : i < l.length
      · obtain ⟨rfl, _⟩ := HSA.out (by omega)
        obtain ⟨q1, q2⟩ := HAT.out wr HBi.out i hil
        obtain ⟨pa, pc, e1, hpn, hpm, hpa⟩ := H3.out i hil
        obtain ⟨ca, cc, e2, hkn, hkm, _⟩ := H1.out i hil
        rw [e1] at q1
        rw [e2] at q2
        have hcx := within_cx hil 0 0
        have hbt := HB.out (0 + 1)
        have hkl : l[i].combs.length ≤ 10000000 := by unfold wB at hcx; omega
        have HNC : Hid (NB most (n + (1 + l[i].combs.length)) (fun d => wA l i d + wB l[i] 0 d)) := by
          obtain ⟨⟨d, hd⟩, hall⟩ := HN.out
          refine ⟨⟨d, ?_⟩, fun hle d => ?_⟩
          · unfold wB; simp; omega
          · have := hall (by omega) d; unfold wB; simp; omega
        have hn2 : n + (1 + l[i].combs.length) ≤ 10000000 := by
          obtain ⟨⟨d, hd⟩, _⟩ := HNC.out
          dsimp only at hd
          have q3 := within_cx hil 0 d
          have q4 := HB.out (d + 1)
          omega
        have HPA := hid_mk hpa
        clear hcx hbt hpa e1 e2 HN
        obtain ⟨c, hcd⟩ : ∃ c, c = l[i] := ⟨_, rfl⟩
        have HCD := hid_mk hcd
        obtain ⟨w1, hw1⟩ : ∃ w1, w1 = wr.alloc (.cells #[.slice pa l[i].parts.length pc, .slice ca l[i].combs.length cc] 36) := ⟨_, rfl⟩
        have hB1 : Below wr.heap.size wr w1 := by rw [hw1]; exact (Below.refl _ _).alloc (Nat.le_refl _) _
        have hx1 : w1.heap[wr.heap.size]? = some (.cells #[.slice pa l[i].parts.length pc, .slice ca l[i].combs.length cc] 36 (0, 0)) := by rw [hw1]; exact heap_alloc_last wr _
        have x0 : w1.cell? ⟨wr.heap.size, 0, none⟩ = some (.slice pa l[i].parts.length pc) := cellAt hx1 0
        have x1 : w1.cell? ⟨wr.heap.size, 1, none⟩ = some (.slice ca l[i].combs.length cc) := cellAt hx1 1
        have HB1 := hid_mk (HBi.out.trans (hB1.mono HBi.out.size))
        have HW1 := hid_mk hw1
        have hpl : l[i].parts.length ≤ 9223372036854775807 := by omega
        obtain ⟨n2, hn2e⟩ : ∃ n2, n2 = n + (1 + l[i].combs.length) := ⟨_, rfl⟩
        rw [← hn2e] at HNC hn2
        have hadd : (n : Int) + (1 + (l[i].combs.length : Int)) = (n2 : Int) := by omega
        clear hcd hw1 hB1 hx1 hn2e
        go_upto_region 5 with (fail)
        rw [← HW1.out]
        clear HW1 q1 q2
        go_wp2
        clear x0 x1
        go_loopw [5, 27] (fun a5 a27 wq => ∃ j m : Nat, j ≤ l[i].parts.length ∧ m ≤ 10000000 ∧ a5 = .int .i64 (m : Int) ∧ a27 = .int .i64 (j : Int) ∧ Hid (NB most m (fun d => wA l i d + wB l[i] j d)) ∧ Hid (Below w.heap.size w wq)) (fun _ a27 _ => l[i].parts.length + 1 - (intOf a27).toNat)
        case atStart => exact ⟨0, n2, Nat.zero_le _, hn2, rfl, rfl, HNC, HB1⟩
        case round =>
          obtain ⟨j, m, hj, hmm, rfl, rfl, HNj, HBj⟩ := hrel
          clear HNC HB1
          by_cases hjl : j < l[i].parts.length
          · obtain ⟨rfl, _⟩ := HPA.out (by omega)
            have q3 := HPC.out wr HBj.out i hil j hjl
            obtain ⟨qa, qc, e3, hqn, hqm, hqa⟩ := H5.out i hil j hjl
            rw [e3] at q3
            have HNP : Hid (NB most (m + 1) (fun d => wA l i d + wB l[i] j d + wE l[i].parts[j] 0 d)) := by
              obtain ⟨⟨d, hd⟩, hall⟩ := HNj.out
              dsimp only at hd hall
              refine ⟨⟨d, ?_⟩, fun hle d => ?_⟩
              · unfold wE; simp; omega
              · have := hall (by omega) d; unfold wE; simp; omega
            have hm2 : m + 1 ≤ 10000000 := by
              obtain ⟨⟨d, hd⟩, _⟩ := HNP.out
              dsimp only at hd
              have q4 := within_part hil hjl 0 d
              have q5 := HB.out (d + 1)
              omega
            have HQA := hid_mk hqa
            have hql : l[i].parts[j].length ≤ 9223372036854775807 := by omega
            clear e3 hqa HNj
            go_wp2
            clear q3
            go_loopw [5, 35] (fun a5 a35 wq => ∃ t k : Nat, t ≤ l[i].parts[j].length ∧ k ≤ 10000000 ∧ a5 = .int .i64 (k : Int) ∧ a35 = .int .i64 (t : Int) ∧ Hid (NB most k (fun d => wA l i d + wB l[i] j d + wE l[i].parts[j] t d)) ∧ Hid (Below w.heap.size w wq)) (fun _ a35 _ => l[i].parts[j].length + 1 - (intOf a35).toNat)
            case atStart => exact ⟨0, m + 1, Nat.zero_le _, hm2, by go_num, rfl, HNP, HBj⟩
            case round =>
              obtain ⟨t, k, ht, hk, rfl, rfl, HNt, HBt⟩ := hrel
              clear HNP HBj
              by_cases htl : t < l[i].parts[j].length
              · obtain ⟨rfl, _⟩ := HQA.out (by omega)
                have hcell := HQC.out wr HBt.out i hil j hjl t htl
                obtain ⟨la, ln, lc, hlv⟩ := HLS.out i hil j hjl t htl
                have HREC : Hid (∀ w', Below w.heap.size w w' → _) := fun w' hw' => HIH.out w' hw' i hil j hjl t htl
                rw [hlv] at hcell HREC
                have HES : Hid (∀ d, wE l[i].parts[j] (t + 1) d = _) := fun d => wE_succ htl d
                obtain ⟨s, hse⟩ : ∃ s, s = l[i].parts[j][t].1 := ⟨_, rfl⟩
                rw [← hse] at hcell HES
                obtain ⟨L2, hL2⟩ : ∃ L2, L2 = l[i].parts[j][t].2 := ⟨_, rfl⟩
                rw [← hL2] at HREC HES
                have y0 := hcell 0 _ rfl
                have y1 := hcell 1 _ rfl
                have y2 := hcell 2 _ rfl
                have y3 := hcell 3 _ rfl
                have y4 := hcell 4 _ rfl
                have y5 := hcell 5 _ rfl
                have y6 := hcell 6 _ rfl
                rw [Nat.add_zero] at y0
                have HWI : Hid (∀ d, wA l i d + wB l[i] j d + wE l[i].parts[j] (t + 1) d ≤ 10000000 ∧ wA l i d + wB l[i] j d + wE l[i].parts[j] (t + 1) d ≤ wt (d + 1) l) := fun d => by
                  have q4 := within_all hil hjl htl d
                  have q5 := HB.out (d + 1)
                  exact ⟨by omega, q4⟩
                have hsz : s.nm.size + s.v.size ≤ 200000100 := by
                  have q4 := (HWI.out 0).1
                  have q5 := HES.out 0
                  omega
                obtain ⟨q, hq⟩ : ∃ q : Nat, q = (s.nm.size + s.v.size) / 20 := ⟨_, rfl⟩
                have hq1 : ((s.nm.size : Int) + (s.v.size : Int)) / 20 = (q : Int) := by omega
                have hq2 : ((s.nm.size : Int) + (s.v.size : Int)).tdiv 20 = (q : Int) := by rw [Int.tdiv_eq_ediv_of_nonneg (by omega)]; exact hq1
                obtain ⟨k1, hk1⟩ : ∃ k1 : Nat, k1 = k + (1 + q) := ⟨_, rfl⟩
                have hk1i : (k : Int) + (1 + (q : Int)) = (k1 : Int) := by omega
                have HN1 : Hid (∃ d, k1 ≤ wA l i d + wB l[i] j d + wE l[i].parts[j] (t + 1) d) := by
                  obtain ⟨⟨d, hd⟩, _⟩ := HNt.out
                  dsimp only at hd
                  refine ⟨d, ?_⟩
                  rw [HES.out d, ← hq, hk1]
                  omega
                have hk1b : k1 ≤ 10000000 := by
                  obtain ⟨d, hd⟩ := HN1.out
                  have := (HWI.out d).1
                  omega
                have HNA : Hid (∀ r : Nat, (∃ d, r ≤ wt d L2) → k1 + r ≤ 10000000 ∧ ∃ d, k1 + r ≤ wA l i d + wB l[i] j d + wE l[i].parts[j] (t + 1) d) := fun r ⟨d2, hd2⟩ => by
                  obtain ⟨⟨d, hd⟩, _⟩ := HNt.out
                  dsimp only at hd
                  have m1 := wA_mono l i (Nat.le_max_left d d2)
                  have m2 := wB_mono l[i] j (Nat.le_max_left d d2)
                  have m3 := wE_mono l[i].parts[j] t (Nat.le_max_left d d2)
                  have m4 := wt_le (Nat.le_max_right d d2) L2
                  have m5 := HES.out (max d d2)
                  rw [← hq] at m5
                  have m6 := (HWI.out (max d d2)).1
                  exact ⟨by omega, max d d2, by omega⟩
                have HNL : Hid (∀ r : Nat, ((r : Int) ≤ most → ∀ d, wt d L2 ≤ r) → ((k1 + r : Nat) : Int) ≤ most → ∀ d, wA l i d + wB l[i] j d + wE l[i].parts[j] (t + 1) d ≤ k1 + r) := fun r h hle d => by
                  have m1 := HNt.out.2 (by omega) d
                  dsimp only at m1
                  have m5 := HES.out d
                  rw [← hq] at m5
                  have m6 := h (by omega) d
                  omega
                obtain ⟨w2, hw2⟩ : ∃ w2, w2 = wr.alloc (.cells #[.int .i64 s.k, .string s.nm, .int .i64 s.op, .string s.v, .int .i64 s.a, .int .i64 s.b, .slice la ln lc] 47) := ⟨_, rfl⟩
                have hB2 : Below wr.heap.size wr w2 := by rw [hw2]; exact (Below.refl _ _).alloc (Nat.le_refl _) _
                have hx2 : w2.heap[wr.heap.size]? = some (.cells #[.int .i64 s.k, .string s.nm, .int .i64 s.op, .string s.v, .int .i64 s.a, .int .i64 s.b, .slice la ln lc] 47 (0, 0)) := by rw [hw2]; exact heap_alloc_last wr _
                have x1 : w2.cell? ⟨wr.heap.size, 1, none⟩ = some (.string s.nm) := cellAt hx2 1
                have x3 : w2.cell? ⟨wr.heap.size, 3, none⟩ = some (.string s.v) := cellAt hx2 3
                have x6 : w2.cell? ⟨wr.heap.size, 6, none⟩ = some (.slice la ln lc) := cellAt hx2 6
                have HB2 := hid_mk (HBt.out.trans (hB2.mono HBt.out.size))
                have hrec := HREC.out w2 HB2.out
                unfold WtP at hrec
                have HW2 := hid_mk hw2
                have hz1 : s.nm.size ≤ 200000100 := by omega
                have hz2 : s.v.size ≤ 200000100 := by omega
                clear hcell hlv HREC HES hse hL2 hq hk1 hw2 hB2 hx2 HNt HBt hsz
                go_upto_region 13 with (fail)
                rw [← HW2.out]
                clear y0 y1 y2 y3 y4 y5 y6 HW2
                by_cases hgt : most < (k1 : Int)
                · have hd1 : decide (most < (k1 : Int)) = true := decide_eq_true hgt
                  have HNW : Hid (∃ d, k1 ≤ wt d l) := by
                    obtain ⟨d, hd⟩ := HN1.out
                    exact ⟨d + 1, Nat.le_trans hd (HWI.out d).2⟩
                  have HGT := hid_mk hgt
                  clear hgt hrec HNA HNL HN1 HWI HAT HPC HQC HLS HIH HB H3 H1 H5 HSA HPA HQA
                  go_wp2
                  go_ret
                  exact ⟨k1, rfl, HNW.out, fun h => absurd HGT.out (by omega), HB2.out⟩
                · have hd1 : decide (most < (k1 : Int)) = false := decide_eq_false hgt
                  clear hgt
                  go_wp2_with (go_at_call 13; fail)
                  refine hrec.mono ?_
                  rintro e w3 ⟨r, rfl, hr1, hr2, hB3⟩
                  have HB3 := hid_mk (HB2.out.trans (hB3.mono HB2.out.size))
                  obtain ⟨hkr, hex⟩ := HNA.out r hr1
                  have HNE : Hid (NB most (k1 + r) (fun d => wA l i d + wB l[i] j d + wE l[i].parts[j] (t + 1) d)) := ⟨hex, HNL.out r hr2⟩
                  clear hrec hr1 hr2 hB3 hex HNA HNL HN1 HWI HAT HPC HQC HLS HIH HB H3 H1 H5 HSA HPA HQA x1 x3 x6
                  go_wp2
                  exact ⟨⟨t + 1, k1 + r, htl, hkr, by go_num, by go_num, HNE, HB3⟩, by simp only [intOf]; omega⟩
              · obtain rfl : t = l[i].parts[j].length := by omega
                have HNZ : Hid (NB most k (fun d => wA l i d + wB l[i] (j + 1) d)) := by
                  obtain ⟨⟨d, hd⟩, hall⟩ := HNt.out
                  dsimp only at hd hall
                  refine ⟨⟨d, by dsimp only; have := wB_succ hjl d; omega⟩, fun hle d => by dsimp only; have := wB_succ hjl d; have := hall hle d; omega⟩
                clear HAT HPC HQC HLS HIH HB H3 H1 H5 HNt HSA HPA HQA
                go_wp2
                exact ⟨⟨j + 1, k, hjl, hk, rfl, by go_num, HNZ, HBt⟩, by simp only [intOf]; omega⟩
          · obtain rfl : j = l[i].parts.length := by omega
            have HNZ : Hid (NB most m (wA l (i + 1))) := by
              obtain ⟨⟨d, hd⟩, hall⟩ := HNj.out
              dsimp only at hd hall
              refine ⟨⟨d, by have := wA_succ hil d; omega⟩, fun hle d => by have := wA_succ hil d; have := hall hle d; omega⟩
            have HNW : Hid (∃ d, m ≤ wt d l) := by
              obtain ⟨⟨d, hd⟩, _⟩ := HNZ.out
              exact ⟨d + 1, Nat.le_trans hd (wA_le l (i + 1) d)⟩
            clear HAT HPC HQC HLS HIH HB H3 H1 H5 HNj HSA HPA
            by_cases hgt : most < (m : Int)
            · have hd1 : decide (most < (m : Int)) = true := decide_eq_true hgt
              have HGT := hid_mk hgt
              clear hgt
              go_wp2
              go_ret
              exact ⟨m, rfl, HNW.out, fun h => absurd HGT.out (by omega), HBj.out⟩
            · have hd1 : decide (most < (m : Int)) = false := decide_eq_false hgt
              clear hgt
              go_wp2
              exact ⟨⟨i + 1, m, hil, hmm, rfl, by go_num, HNZ, HBj⟩, by simp only [intOf]; omega⟩
      · obtain rfl : i = l.length := by omega
        have HZ : Hid ((∃ d, n ≤ wt d l) ∧ ((n : Int) ≤ most → ∀ d, wt d l ≤ n)) := by
          obtain ⟨⟨d, hd⟩, hall⟩ := HN.out
          refine ⟨⟨d + 1, by rw [← wA_all]; exact hd⟩, fun hle d => ?_⟩
          have := hall hle d
          rw [wA_all] at this
          exact Nat.le_trans (wt_succ d l) this
        clear HAT HPC HQC HLS HIH HB H3 H1 H5 HN HSA
        go_wp2
        go_ret
        exact ⟨n, rfl, HZ.out.1, HZ.out.2, HBi.out⟩
end Go.Proofs.Ytdiljkmlneeboaa
