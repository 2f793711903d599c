/- gouacheref05.Weight of any selectors: it answers some number. Selectors that came in as an argument, and their bulk. -/
import Derived.Test.YtdgkhpkgjkpmnaaGreatDoorLId
import Derived.ProofKit
import Derived.OpenShut
namespace Go.Proofs.YtdgkhpkgjkpmnaaGreatDoor.L
open Go.RowKit
set_option maxRecDepth 100000

def SomeI (w : World) (e : Ending) (w' : World) : Prop := ∃ n : Int, e = .returned (.int .i64 n) ∧ Below w.heap.size w w'

set_option maxHeartbeats 1000000 in
theorem weight_some {W : World} {v : Value} {l : List Cx} (h : ClAt W v l) : ∀ (most : Int) (w : World) (_ : Below W.heap.size W w), Calls Tryz.prog 4 #[v, .int .i64 most] w (SomeI w) := by
  induction h with
  | mk v l b off pv cv bc oc bp op qv bq oq lv hs hc h1 h2 h3 h4 h5 h6 hr ih =>
    intro most w hW
    have HAT : Hid (∀ w', Below w.heap.size w w' → ∀ i (hi : i < l.length), w'.cell? ⟨b, off + i * 2, none⟩ = some (pv i) ∧ w'.cell? ⟨b, off + i * 2 + 1, none⟩ = some (cv i)) := fun w' hw' i hi => by
      have hB := hW.trans (hw'.mono hW.size)
      rw [hs.cell hB (by omega), hs.cell hB (by omega)]
      exact hc i hi
    have HPC : Hid (∀ w', Below w.heap.size w w' → ∀ i (hi : i < l.length) j, j < l[i].parts.length → w'.cell? ⟨bp i, op i + j, none⟩ = some (qv i j)) := fun w' hw' i hi j hj => by
      rw [(h3 i hi).cell (hW.trans (hw'.mono hW.size)) (by omega)]
      exact h4 i hi j hj
    have HQC : Hid (∀ w', Below w.heap.size w w' → ∀ i (hi : i < l.length) j (hj : j < l[i].parts.length) t (ht : t < l[i].parts[j].length), ∀ y u, (s7 l[i].parts[j][t].1 (lv i j t))[y]? = some u → w'.cell? ⟨bq i j, oq i j + t * 7 + y, none⟩ = some u) := fun w' hw' i hi j hj t ht y u hu => by
      rw [(h5 i hi j hj).cell (hW.trans (hw'.mono hW.size)) (by omega)]
      exact h6 i hi j hj t ht y u hu
    have HLS : Hid (∀ i (hi : i < l.length) j (hj : j < l[i].parts.length) t (ht : t < l[i].parts[j].length), ∃ la ln lc, lv i j t = .slice la ln lc) := fun i hi j hj t ht => by
      obtain ⟨_, _, ⟨la, lc, e, _⟩, _⟩ := (hr i hi j hj t ht).at
      exact ⟨la, _, lc, e⟩
    have HIH : Hid (∀ w', Below w.heap.size w w' → ∀ i (hi : i < l.length) j (hj : j < l[i].parts.length) t (ht : t < l[i].parts[j].length), Calls Tryz.prog 4 #[lv i j t, .int .i64 most] w' (SomeI w')) := fun w' hw' i hi j hj t ht => ih i hi j hj t ht most w' (hW.trans (hw'.mono hW.size))
    have H3 := hid_mk h3
    have H1 := hid_mk h1
    have H5 := hid_mk h5
    obtain ⟨a, cap, rfl, hcn, hcm, hsa⟩ := hs
    have hln : l.length ≤ 9223372036854775807 := by omega
    have HSA := hid_mk hsa
    have HBW := hid_mk (Below.refl w.heap.size w)
    clear hc h1 h2 h3 h4 h5 h6 hr ih hsa
    go_enter Tryz.func4, Tryz.ntmps4
    go_wp2
    go_loopw [5, 14] (fun a5 a14 wq => ∃ (i : Nat) (n : Int), i ≤ l.length ∧ a5 = .int .i64 n ∧ a14 = .int .i64 (i : Int) ∧ Hid (Below w.heap.size w wq)) (fun _ a14 _ => l.length + 1 - (intOf a14).toNat)
    case atStart => exact ⟨0, 0, Nat.zero_le _, rfl, rfl, HBW⟩
    case round =>
      obtain ⟨i, n, hi, rfl, rfl, HBi⟩ := hrel
      by_cases hil : i < l.length
      · obtain ⟨rfl, _⟩ := HSA.out (by omega)
        obtain ⟨q1, q2⟩ := HAT.out wr HBi.out i hil
        obtain ⟨pa, pc, e1, hpn, hpm, hpa⟩ := H3.out i hil
        obtain ⟨ca, cc, e2, hkn, hkm, _⟩ := H1.out i hil
        rw [e1] at q1
        rw [e2] at q2
        have HPA := hid_mk hpa
        clear hpa e1 e2
        obtain ⟨w1, hw1⟩ : ∃ w1, w1 = wr.alloc (.cells #[.slice pa l[i].parts.length pc, .slice ca l[i].combs.length cc] 25) := ⟨_, rfl⟩
        have hB1 : Below wr.heap.size wr w1 := by rw [hw1]; exact (Below.refl _ _).alloc (Nat.le_refl _) _
        have hx1 : w1.heap[wr.heap.size]? = some (.cells #[.slice pa l[i].parts.length pc, .slice ca l[i].combs.length cc] 25 (0, 0)) := by rw [hw1]; exact heap_alloc_last wr _
        have x0 : w1.cell? ⟨wr.heap.size, 0, none⟩ = some (.slice pa l[i].parts.length pc) := cellAt hx1 0
        have x1 : w1.cell? ⟨wr.heap.size, 1, none⟩ = some (.slice ca l[i].combs.length cc) := cellAt hx1 1
        have HB1 := hid_mk (HBi.out.trans (hB1.mono HBi.out.size))
        have HW1 := hid_mk hw1
        have hpl : l[i].parts.length ≤ 9223372036854775807 := by omega
        clear hw1 hB1 hx1
        go_upto_region 5 with (fail)
        rw [← HW1.out]
        clear HW1 q1 q2
        go_wp2
        clear x0 x1
        go_loopw [5, 27] (fun a5 a27 wq => ∃ (j : Nat) (m : Int), j ≤ l[i].parts.length ∧ a5 = .int .i64 m ∧ a27 = .int .i64 (j : Int) ∧ Hid (Below w.heap.size w wq)) (fun _ a27 _ => l[i].parts.length + 1 - (intOf a27).toNat)
        case atStart => exact ⟨0, _, Nat.zero_le _, rfl, rfl, HB1⟩
        case round =>
          obtain ⟨j, m, hj, rfl, rfl, HBj⟩ := hrel
          clear HB1
          by_cases hjl : j < l[i].parts.length
          · obtain ⟨rfl, _⟩ := HPA.out (by omega)
            have q3 := HPC.out wr HBj.out i hil j hjl
            obtain ⟨qa, qc, e3, hqn, hqm, hqa⟩ := H5.out i hil j hjl
            rw [e3] at q3
            have HQA := hid_mk hqa
            have hql : l[i].parts[j].length ≤ 9223372036854775807 := by omega
            clear e3 hqa
            go_wp2
            clear q3
            go_loopw [5, 35] (fun a5 a35 wq => ∃ (t : Nat) (k : Int), t ≤ l[i].parts[j].length ∧ a5 = .int .i64 k ∧ a35 = .int .i64 (t : Int) ∧ Hid (Below w.heap.size w wq)) (fun _ a35 _ => l[i].parts[j].length + 1 - (intOf a35).toNat)
            case atStart => exact ⟨0, _, Nat.zero_le _, rfl, rfl, HBj⟩
            case round =>
              obtain ⟨t, k, ht, rfl, rfl, HBt⟩ := hrel
              clear HBj
              by_cases htl : t < l[i].parts[j].length
              · obtain ⟨rfl, _⟩ := HQA.out (by omega)
                have hcell := HQC.out wr HBt.out i hil j hjl t htl
                obtain ⟨la, ln, lc, hlv⟩ := HLS.out i hil j hjl t htl
                have HREC : Hid (∀ w', Below w.heap.size w w' → _) := fun w' hw' => HIH.out w' hw' i hil j hjl t htl
                rw [hlv] at hcell HREC
                obtain ⟨s, hse⟩ : ∃ s, s = l[i].parts[j][t].1 := ⟨_, rfl⟩
                rw [← hse] at hcell
                have y0 := hcell 0 _ rfl
                have y1 := hcell 1 _ rfl
                have y2 := hcell 2 _ rfl
                have y3 := hcell 3 _ rfl
                have y4 := hcell 4 _ rfl
                have y5 := hcell 5 _ rfl
                have y6 := hcell 6 _ rfl
                rw [Nat.add_zero] at y0
                obtain ⟨w2, hw2⟩ : ∃ w2, w2 = wr.alloc (.cells #[.int .i64 s.k, .string s.nm, .int .i64 s.op, .string s.v, .int .i64 s.a, .int .i64 s.b, .slice la ln lc] 34) := ⟨_, rfl⟩
                have hB2 : Below wr.heap.size wr w2 := by rw [hw2]; exact (Below.refl _ _).alloc (Nat.le_refl _) _
                have hx2 : w2.heap[wr.heap.size]? = some (.cells #[.int .i64 s.k, .string s.nm, .int .i64 s.op, .string s.v, .int .i64 s.a, .int .i64 s.b, .slice la ln lc] 34 (0, 0)) := by rw [hw2]; exact heap_alloc_last wr _
                have x1 : w2.cell? ⟨wr.heap.size, 1, none⟩ = some (.string s.nm) := cellAt hx2 1
                have x3 : w2.cell? ⟨wr.heap.size, 3, none⟩ = some (.string s.v) := cellAt hx2 3
                have x6 : w2.cell? ⟨wr.heap.size, 6, none⟩ = some (.slice la ln lc) := cellAt hx2 6
                have HB2 := hid_mk (HBt.out.trans (hB2.mono HBt.out.size))
                have hrec := HREC.out w2 HB2.out
                have HW2 := hid_mk hw2
                clear hcell hlv HREC hse hw2 hB2 hx2 HBt
                go_upto_region 13 with (fail)
                rw [← HW2.out]
                clear y0 y1 y2 y3 y4 y5 y6 HW2
                go_cut [5] (fun s5 wx => ∃ k2 : Int, s5 = .int .i64 k2 ∧ Hid (wx = w2))
                case first =>
                  go_wp2
                  go_meet
                  exact ⟨_, rfl, rfl⟩
                case rest =>
                obtain ⟨k2, rfl, hwc⟩ := hcut
                have hwc' := hwc.out
                subst hwc'
                clear hwc
                by_cases hgt : most < k2
                · have hd1 : decide (most < k2) = true := decide_eq_true hgt
                  clear hrec HAT HPC HQC HLS HIH H3 H1 H5 HSA HPA HQA
                  go_wp2
                  go_ret
                  exact ⟨k2, rfl, HB2.out⟩
                · have hd1 : decide (most < k2) = false := decide_eq_false hgt
                  go_wp2_with (go_at_call 4; fail)
                  refine hrec.mono ?_
                  rintro e w3 ⟨r, rfl, hB3⟩
                  have HB3 := hid_mk (HB2.out.trans (hB3.mono HB2.out.size))
                  clear hrec hB3 HAT HPC HQC HLS HIH H3 H1 H5 HSA HPA HQA x1 x3 x6
                  go_wp2
                  exact ⟨⟨t + 1, _, htl, rfl, by go_num, HB3⟩, by simp only [intOf]; omega⟩
              · obtain rfl : t = l[i].parts[j].length := by omega
                clear HAT HPC HQC HLS HIH H3 H1 H5 HSA HPA HQA
                go_wp2
                exact ⟨⟨j + 1, _, hjl, rfl, by go_num, HBt⟩, by simp only [intOf]; omega⟩
          · obtain rfl : j = l[i].parts.length := by omega
            clear HAT HPC HQC HLS HIH H3 H1 H5 HSA HPA
            by_cases hgt : most < m
            · have hd1 : decide (most < m) = true := decide_eq_true hgt
              go_wp2
              go_ret
              exact ⟨m, rfl, HBj.out⟩
            · have hd1 : decide (most < m) = false := decide_eq_false hgt
              go_wp2
              exact ⟨⟨i + 1, _, hil, rfl, by go_num, HBj⟩, by simp only [intOf]; omega⟩
      · obtain rfl : i = l.length := by omega
        clear HAT HPC HQC HLS HIH H3 H1 H5 HSA
        go_wp2
        go_ret
        exact ⟨n, rfl, HBi.out⟩
end Go.Proofs.YtdgkhpkgjkpmnaaGreatDoor.L
namespace Go.Proofs.YtdgkhpkgjkpmnaaGreatDoor.L
open Go.ChangeShapes Go.WideShapes Go.ChangeAt Go.RowKit
set_option maxRecDepth 100000

theorem cells_each {w : World} {base n : Nat} {a : Addr} {cs : List Value} (h : w.cells? base a n = some cs) : base ≤ a.block ∧ cs.length = n ∧ ∀ i, i < n → w.cell? (a.add i) = cs[i]? := by
  unfold World.cells? at h
  split at h
  · rename_i hb
    refine ⟨hb, ?_, fun i hi => ?_⟩
    · have := mapM_some_length h
      simpa using this
    · exact mapM_some_get h i i (by simp [hi])
  · cases h
theorem add_none (b off j : Nat) : (⟨b, off, none⟩ : Addr).add j = ⟨b, off + j, none⟩ := by unfold Addr.add; split <;> simp_all
theorem head_of {a b : Value} (h : [a] = [b]) : a = b := by simpa using h
theorem collect {Q : Type} (q0 : Q) {n : Nat} {P : Nat → Q → Prop} (h : ∀ i, i < n → ∃ q, P i q) : ∃ f : Nat → Q, ∀ i, i < n → P i (f i) :=
  ⟨fun i => @Classical.epsilon Q ⟨q0⟩ (P i), fun i hi => @Classical.epsilon_spec_aux Q ⟨q0⟩ (P i) (h i hi)⟩
theorem get_eq {α : Type} {p p' : List α} (e : p = p') {t : Nat} (h : t < p.length) (h' : t < p'.length) : p[t]'h = p'[t]'h' := by
  subst e
  rfl
def s60 : S6 := ⟨0, ⟨#[]⟩, 0, ⟨#[]⟩, 0, 0⟩
theorem bulk_one {H : Type} (d : DataW H) : 1 ≤ Rows.uptoBulk d := by
  cases d with
  | lit l => cases l <;> simp [Rows.uptoBulk]
  | nil => simp [Rows.uptoBulk]
  | ptr d => simp [Rows.uptoBulk]
  | slice elems spare => simp [Rows.uptoBulk]
  | agg parts => simp [Rows.uptoBulk]
  | iface t d => simp [Rows.uptoBulk]
  | map entries => simp [Rows.uptoBulk]
  | held h => simp [Rows.uptoBulk]
theorem sum_range {α : Type} (g : Nat → Nat) (k : α → Nat) : ∀ (ys : List α), (∀ i (h : i < ys.length), g i ≤ k (ys[i]'h)) → ((List.range ys.length).map g).sum ≤ (ys.map k).sum := by
  intro ys h
  have key : ∀ j, j ≤ ys.length → ((List.range j).map g).sum ≤ ((ys.take j).map k).sum := by
    intro j
    induction j with
    | zero => intro _; simp
    | succ j ih =>
      intro hj
      rw [List.range_succ, List.map_append, List.sum_append, sum_take k (by omega)]
      have h1 := ih (by omega)
      have h2 := h j (by omega)
      simp only [List.map_cons, List.map_nil, List.sum_cons, List.sum_nil]
      omega
  have := key ys.length (Nat.le_refl _)
  rw [List.take_length] at this
  exact this
section
variable {H : Type} {enc : TypeId × Value → H} {W : World} {base : Nat} {sp : Nat → Bool} {held : Bool}
theorem bulk_all (l : List (DataW H × List MemPlace)) : Rows.uptoBulkAll (l.map (·.1)) = (l.map fun y => Rows.uptoBulk y.1).sum := by
  induction l with
  | nil => simp [Rows.uptoBulkAll]
  | cons x l ih => simp only [List.map_cons, Rows.uptoBulkAll, List.sum_cons, ih]
/-- A slice that came in. -/
theorem open_slice {t e : TypeId} {sz : Nat} (ht : Tryz.prog.underlying t = some (.slice e)) (hsz : Tryz.prog.cellsOf e = sz) (h0 : 0 < sz) {fuel : Nat} {v : Value} {x : DataW H × List MemPlace} (hf : DataW.trod enc Tryz.prog W base sp held fuel t [v] = some x) :
    ∃ (n b off : Nat) (ys : List (DataW H × List MemPlace)) (m : Nat), m < fuel ∧ Sl W v n b off ∧ ys.length = n ∧ (∀ i (hy : i < ys.length), ∃ cs, cs.length = sz ∧ (∀ j u, cs[j]? = some u → W.cell? ⟨b, off + i * sz + j, none⟩ = some u) ∧ DataW.trod enc Tryz.prog W base sp held m e cs = some (ys[i]'hy)) ∧ (ys.map fun y => Rows.uptoBulk y.1).sum + 1 ≤ Rows.uptoBulk x.1 := by
  rcases DataW.trod_slice ht hf with ⟨hcs, hx⟩ | ⟨a, len, cap, elems, rest, n, hfu, hcs, hx, hb, hl, hcap, hel, hget, _⟩
  · have e := head_of hcs
    subst e
    have hfu : 0 < fuel := by
      cases fuel with
      | zero => simp [DataW.trod] at hf
      | succ _ => omega
    refine ⟨0, 0, 0, [], 0, hfu, ⟨none, 0, rfl, Nat.le_refl _, by decide, fun h => absurd h (by omega)⟩, rfl, fun i hi => absurd hi (by simp), ?_⟩
    rw [hx]
    simp [Rows.uptoBulk]
  · have e := head_of hcs
    subst e
    have hle : elems.length = len := by omega
    have hx1 : x.1 = DataW.slice (elems.map (·.1)) (rest.map (·.1)) := congrArg Prod.fst hx
    have key : ∀ i (hi : i < len), ∃ cs, cs.length = sz ∧ (∀ j, j < sz → W.cell? ((a.add (i * sz)).add j) = cs[j]?) ∧ DataW.trod enc Tryz.prog W base sp held n e cs = some (elems[i]'(by omega)) := fun i hi => by
      have h1 := hget i hi
      rw [hsz] at h1
      have h2 : elems[i]? = some (elems[i]'(by omega)) := List.getElem?_eq_getElem (by omega)
      rw [h2, Option.bind_eq_some_iff] at h1
      obtain ⟨cs, hc, ht⟩ := h1
      obtain ⟨_, hcl, hce⟩ := cells_each hc
      exact ⟨cs, hcl, hce, ht⟩
    obtain ⟨b, off, spot⟩ := a
    have hsp : 0 < len → spot = none ∧ b < W.heap.size := fun hp => by
      obtain ⟨cs, hcl, hce, _⟩ := key 0 hp
      have hc' := hce 0 h0
      rw [List.getElem?_eq_getElem (by omega)] at hc'
      have hspot : spot = none := by simpa [Addr.add] using World.cell?_spot hc'
      subst hspot
      have := World.block_lt_of_cell? W _ hc'
      exact ⟨rfl, by simpa [add_none] using this⟩
    refine ⟨len, b, off, elems, n, by omega, ⟨_, cap, rfl, hl, Nat.le_trans hcap (by decide), fun hp => ?_⟩, hle, fun i hy => ?_, ?_⟩
    · obtain ⟨h1, h2⟩ := hsp hp
      subst h1
      exact ⟨rfl, h2⟩
    · have hi : i < len := by omega
      obtain ⟨cs, hcl, hce, htr⟩ := key i hi
      obtain ⟨h1, _⟩ := hsp (by omega)
      subst h1
      refine ⟨cs, hcl, fun j u hu => ?_, htr⟩
      have hj : j < sz := by have := (List.getElem?_eq_some_iff.1 hu).1; omega
      have := hce j hj
      rw [add_none, add_none] at this
      rw [this]
      exact hu
    · rw [hx1]
      simp only [Rows.uptoBulk]
      rw [bulk_all]
      omega
theorem k3 : Tryz.prog.cellsOf 3 = 1 := by kernel_rfl
theorem k9 : Tryz.prog.cellsOf 9 = 1 := by kernel_rfl
theorem kk22 : Tryz.prog.cellsOf 22 = 1 := by kernel_rfl
theorem kk23 : Tryz.prog.cellsOf 23 = 1 := by kernel_rfl
theorem kk25 : Tryz.prog.cellsOf 25 = 2 := by kernel_rfl
theorem kk27 : Tryz.prog.cellsOf 27 = 1 := by kernel_rfl
theorem kk34 : Tryz.prog.cellsOf 34 = 7 := by kernel_rfl
theorem kk32 : Tryz.prog.cellsOf 32 = 1 := by kernel_rfl
theorem bulk_str (s : ByteArray) : Rows.uptoBulk (DataW.lit (H := H) (.string s.data.toList)) = s.size + 1 := by
  have e : s.data.toList.length = s.size := by rw [Array.length_toList]; rfl
  simp [Rows.uptoBulk]
/-- A simple selector that came in. -/
theorem open_simple {m : Nat} {cs : List Value} {y : DataW H × List MemPlace} (hf : DataW.trod enc Tryz.prog W base sp held m 34 cs = some y) (hl : cs.length = 7) :
    ∃ (s : S6) (lv : Value) (m' : Nat) (z : DataW H × List MemPlace), cs = s7 s lv ∧ m' < m ∧ DataW.trod enc Tryz.prog W base sp held m' 27 [lv] = some z ∧ 1 + (s.nm.size + s.v.size) + Rows.uptoBulk z.1 ≤ Rows.uptoBulk y.1 := by
  obtain ⟨y0, y1, y2, y3, y4, y5, y6, rfl⟩ : ∃ y0 y1 y2 y3 y4 y5 y6, cs = [y0, y1, y2, y3, y4, y5, y6] := by
    match cs, hl with
    | [a, b, c, d, e, f, g], _ => exact ⟨a, b, c, d, e, f, g, rfl⟩
  obtain ⟨xs, n, hmn, hx, hl2, hxl, hel⟩ := DataW.trod_struct Tryz.underlying34 hf
  have h0 := hel 0 _ rfl
  have h1 := hel 1 _ rfl
  have h2 := hel 2 _ rfl
  have h3 := hel 3 _ rfl
  have h4 := hel 4 _ rfl
  have h5 := hel 5 _ rfl
  have h6 := hel 6 _ rfl
  have hxl7 : xs.length = 7 := hxl
  obtain ⟨x0, x1, x2, x3, x4, x5, x6, rfl⟩ : ∃ x0 x1 x2 x3 x4 x5 x6, xs = [x0, x1, x2, x3, x4, x5, x6] := by
    match xs, hxl7 with
    | [a, b, c, d, e, f, g], _ => exact ⟨a, b, c, d, e, f, g, rfl⟩
  obtain ⟨k, a0, b0, _⟩ := DataW.trod_int Tryz.underlying3 h0
  obtain ⟨nm, a1, b1, _⟩ := DataW.trod_string Tryz.underlying9 h1
  obtain ⟨op, a2, b2, _⟩ := DataW.trod_int Tryz.underlying3 h2
  obtain ⟨vv, a3, b3, _⟩ := DataW.trod_string Tryz.underlying9 h3
  obtain ⟨aa, a4, b4, _⟩ := DataW.trod_int Tryz.underlying3 h4
  obtain ⟨bb, a5, b5, _⟩ := DataW.trod_int Tryz.underlying3 h5
  have e0 : y0 = .int .i64 k := head_of (by rw [← a0]; show _ = List.take (Tryz.prog.cellsOf 3) _; rw [k3]; rfl)
  have e1 : y1 = .string nm := head_of (by rw [← a1]; show _ = List.take (Tryz.prog.cellsOf 9) _; rw [k9]; rfl)
  have e2 : y2 = .int .i64 op := head_of (by rw [← a2]; show _ = List.take (Tryz.prog.cellsOf 3) _; rw [k3]; rfl)
  have e3 : y3 = .string vv := head_of (by rw [← a3]; show _ = List.take (Tryz.prog.cellsOf 9) _; rw [k9]; rfl)
  have e4 : y4 = .int .i64 aa := head_of (by rw [← a4]; show _ = List.take (Tryz.prog.cellsOf 3) _; rw [k3]; rfl)
  have e5 : y5 = .int .i64 bb := head_of (by rw [← a5]; show _ = List.take (Tryz.prog.cellsOf 3) _; rw [k3]; rfl)
  have h6' : DataW.trod enc Tryz.prog W base sp held n 27 [y6] = some x6 := by
    have e : List.take (Tryz.prog.cellsOf 27) (List.drop 6 [y0, y1, y2, y3, y4, y5, y6]) = [y6] := by rw [kk27]; rfl
    rw [← e]
    exact h6
  have hx1 : y.1 = DataW.agg ([x0, x1, x2, x3, x4, x5, x6].map (·.1)) := congrArg Prod.fst hx
  have q1 : x1.1 = .lit (.string nm.data.toList) := by rw [b1]
  have q3 : x3.1 = .lit (.string vv.data.toList) := by rw [b3]
  refine ⟨⟨k, nm, op, vv, aa, bb⟩, y6, n, x6, ?_, by omega, h6', ?_⟩
  · rw [e0, e1, e2, e3, e4, e5]
    rfl
  · rw [hx1]
    simp only [Rows.uptoBulk, List.map, Rows.uptoBulkAll]
    rw [q1, q3, bulk_str, bulk_str]
    show 1 + (nm.size + vv.size) + _ ≤ _
    omega
/-- A complex selector that came in: its two slices. -/
theorem open_two {m : Nat} {cs : List Value} {y : DataW H × List MemPlace} (hf : DataW.trod enc Tryz.prog W base sp held m 25 cs = some y) (hl : cs.length = 2) :
    ∃ (pv cv : Value) (m' : Nat) (z1 z2 : DataW H × List MemPlace), cs = [pv, cv] ∧ m' < m ∧ DataW.trod enc Tryz.prog W base sp held m' 22 [pv] = some z1 ∧ DataW.trod enc Tryz.prog W base sp held m' 23 [cv] = some z2 ∧ 1 + Rows.uptoBulk z1.1 + Rows.uptoBulk z2.1 ≤ Rows.uptoBulk y.1 := by
  obtain ⟨y0, y1, rfl⟩ : ∃ y0 y1, cs = [y0, y1] := by
    match cs, hl with
    | [a, b], _ => exact ⟨a, b, rfl⟩
  obtain ⟨xs, n, hmn, hx, hl2, hxl, hel⟩ := DataW.trod_struct Tryz.underlying25 hf
  have h0 := hel 0 _ rfl
  have h1 := hel 1 _ rfl
  have hxl2 : xs.length = 2 := hxl
  obtain ⟨x0, x1, rfl⟩ : ∃ x0 x1, xs = [x0, x1] := by
    match xs, hxl2 with
    | [a, b], _ => exact ⟨a, b, rfl⟩
  have h0' : DataW.trod enc Tryz.prog W base sp held n 22 [y0] = some x0 := by
    have e : List.take (Tryz.prog.cellsOf 22) (List.drop 0 [y0, y1]) = [y0] := by rw [kk22]; rfl
    rw [← e]
    exact h0
  have h1' : DataW.trod enc Tryz.prog W base sp held n 23 [y1] = some x1 := by
    have e : List.take (Tryz.prog.cellsOf 23) (List.drop 1 [y0, y1]) = [y1] := by rw [kk23]; rfl
    rw [← e]
    exact h1
  have hx1 : y.1 = DataW.agg ([x0, x1].map (·.1)) := congrArg Prod.fst hx
  refine ⟨y0, y1, n, x0, x1, rfl, by omega, h0', h1', ?_⟩
  rw [hx1]
  simp only [Rows.uptoBulk, List.map, Rows.uptoBulkAll]
  omega
/-- Combs that came in. -/
theorem open_combs {m : Nat} {cv : Value} {z : DataW H × List MemPlace} (hf : DataW.trod enc Tryz.prog W base sp held m 23 [cv] = some z) :
    ∃ (ks : List Int) (b off : Nat), Sl W cv ks.length b off ∧ (∀ t (h : t < ks.length), W.cell? ⟨b, off + t, none⟩ = some (.int .i64 (ks[t]'h))) ∧ ks.length + 1 ≤ Rows.uptoBulk z.1 := by
  obtain ⟨n, b, off, ys, m1, _, hS, hy, hel, hbk⟩ := open_slice Tryz.underlying23 k3 (by decide) hf
  subst hy
  have key : ∀ i, i < ys.length → ∃ k : Int, W.cell? ⟨b, off + i, none⟩ = some (.int .i64 k) ∧ ∀ h : i < ys.length, 1 ≤ Rows.uptoBulk (ys[i]'h).1 := fun i hi => by
    obtain ⟨cs, hl, hc, htr⟩ := hel i hi
    obtain ⟨k, a0, b0, _⟩ := DataW.trod_int Tryz.underlying3 htr
    refine ⟨k, ?_, fun h => bulk_one _⟩
    have := hc 0 (.int .i64 k) (by rw [a0]; rfl)
    simpa using this
  obtain ⟨f, hfi⟩ := collect 0 key
  have hll : ((List.range ys.length).map f).length = ys.length := by simp
  refine ⟨(List.range ys.length).map f, b, off, by rw [hll]; exact hS, fun t h => ?_, ?_⟩
  · rw [hll] at h
    rw [(hfi t h).1]
    simp
  · have h1 := sum_range (fun _ => 1) (fun y : DataW H × List MemPlace => Rows.uptoBulk y.1) ys (fun i h => (hfi i h).2 h)
    have h2 : ∀ n, ((List.range n).map fun _ => 1).sum = n := fun n => by
      induction n with
      | zero => rfl
      | succ n ih => rw [List.range_succ, List.map_append, List.sum_append, ih]; rfl
    have h3 := h2 ys.length
    rw [hll]
    omega
/-- A Part that came in. -/
theorem open_part {M m : Nat} (hM : m ≤ M) (ih : ∀ m', m' < M → ∀ (v : Value) (x : DataW H × List MemPlace), DataW.trod enc Tryz.prog W base sp held m' 27 [v] = some x → ∃ l, ClAt W v l ∧ ∀ d, wt d l ≤ Rows.uptoBulk x.1) {q : Value} {z : DataW H × List MemPlace} (hf : DataW.trod enc Tryz.prog W base sp held m 32 [q] = some z) :
    ∃ (p : List (S6 × List Cx)) (b off : Nat) (lv : Nat → Value), Sl W q p.length b off ∧ (∀ t (h : t < p.length), ∀ y u, (s7 (p[t]'h).1 (lv t))[y]? = some u → W.cell? ⟨b, off + t * 7 + y, none⟩ = some u) ∧ (∀ t (h : t < p.length), ClAt W (lv t) (p[t]'h).2) ∧ ∀ d, wtP (wt d) p ≤ Rows.uptoBulk z.1 := by
  obtain ⟨n, b, off, ys, m1, hm1, hS, hy, hel, hbk⟩ := open_slice Tryz.underlying32 kk34 (by decide) hf
  subst hy
  have key : ∀ i, i < ys.length → ∃ e : S6 × Value × List Cx, (∀ y u, (s7 e.1 e.2.1)[y]? = some u → W.cell? ⟨b, off + i * 7 + y, none⟩ = some u) ∧ ClAt W e.2.1 e.2.2 ∧ ∀ (h : i < ys.length) (d : Nat), wtS (wt d) (e.1, e.2.2) ≤ Rows.uptoBulk (ys[i]'h).1 := fun i hi => by
    obtain ⟨cs, hl, hc, htr⟩ := hel i hi
    obtain ⟨s, lv, m', z', rfl, hm', hz', hb'⟩ := open_simple htr hl
    obtain ⟨l, h1, h2⟩ := ih m' (by omega) lv z' hz'
    refine ⟨(s, lv, l), hc, h1, fun h d => ?_⟩
    have h3 := h2 d
    unfold wtS
    dsimp only
    omega
  obtain ⟨f, hfi⟩ := collect (s60, .slice none 0 0, []) key
  have hll : ((List.range ys.length).map fun t => ((f t).1, (f t).2.2)).length = ys.length := by simp
  have hget : ∀ t (h : t < ((List.range ys.length).map fun t => ((f t).1, (f t).2.2)).length), ((List.range ys.length).map fun t => ((f t).1, (f t).2.2))[t]'h = ((f t).1, (f t).2.2) := fun t h => by simp
  refine ⟨(List.range ys.length).map fun t => ((f t).1, (f t).2.2), b, off, fun t => (f t).2.1, by rw [hll]; exact hS, fun t h y u hu => ?_, fun t h => ?_, fun d => ?_⟩
  · rw [hget t h] at hu
    rw [hll] at h
    exact (hfi t h).1 y u hu
  · rw [hget t h]
    rw [hll] at h
    exact (hfi t h).2.1
  · have h1 := sum_range (fun t => wtS (wt d) ((f t).1, (f t).2.2)) (fun y : DataW H × List MemPlace => Rows.uptoBulk y.1) ys (fun i h => (hfi i h).2.2 h d)
    unfold wtP
    rw [List.map_map]
    have h2 : ((List.range ys.length).map (wtS (wt d) ∘ fun t => ((f t).1, (f t).2.2))).sum = ((List.range ys.length).map fun t => wtS (wt d) ((f t).1, (f t).2.2)).sum := rfl
    omega
/-- A complex selector that came in. -/
theorem open_cx {M m : Nat} (hM : m ≤ M) (ih : ∀ m', m' < M → ∀ (v : Value) (x : DataW H × List MemPlace), DataW.trod enc Tryz.prog W base sp held m' 27 [v] = some x → ∃ l, ClAt W v l ∧ ∀ d, wt d l ≤ Rows.uptoBulk x.1) {cs : List Value} {y : DataW H × List MemPlace} (hf : DataW.trod enc Tryz.prog W base sp held m 25 cs = some y) (hl : cs.length = 2) :
    ∃ (pv cv : Value) (c : Cx) (bc oc bp op : Nat) (qv : Nat → Value) (bq oq : Nat → Nat) (lv : Nat → Nat → Value), cs = [pv, cv] ∧ CxAt (ClAt W) W pv cv c bc oc bp op qv bq oq lv ∧ ∀ d, wtC (wt d) c ≤ Rows.uptoBulk y.1 := by
  obtain ⟨pv, cv, m', z1, z2, rfl, hm', hz1, hz2, hb⟩ := open_two hf hl
  obtain ⟨ks, bc, oc, hc1, hc2, hc3⟩ := open_combs hz2
  obtain ⟨n, bp, op, ys, m1, hm1, hS, hy, hel, hbk⟩ := open_slice Tryz.underlying22 kk32 (by decide) hz1
  subst hy
  have key : ∀ j, j < ys.length → ∃ e : Value × List (S6 × List Cx) × Nat × Nat × (Nat → Value), W.cell? ⟨bp, op + j, none⟩ = some e.1 ∧ Sl W e.1 e.2.1.length e.2.2.1 e.2.2.2.1 ∧ (∀ t (h : t < e.2.1.length), ∀ y u, (s7 (e.2.1[t]'h).1 (e.2.2.2.2 t))[y]? = some u → W.cell? ⟨e.2.2.1, e.2.2.2.1 + t * 7 + y, none⟩ = some u) ∧ (∀ t (h : t < e.2.1.length), ClAt W (e.2.2.2.2 t) (e.2.1[t]'h).2) ∧ ∀ (h : j < ys.length) (d : Nat), wtP (wt d) e.2.1 ≤ Rows.uptoBulk (ys[j]'h).1 := fun j hj => by
    obtain ⟨cs, hl, hc, htr⟩ := hel j hj
    obtain ⟨q, rfl⟩ : ∃ q, cs = [q] := by
      match cs, hl with
      | [a], _ => exact ⟨a, rfl⟩
    obtain ⟨p, b, off, lv, h1, h2, h3, h4⟩ := open_part (M := M) (by omega) ih htr
    refine ⟨(q, p, b, off, lv), ?_, h1, h2, h3, fun _ d => h4 d⟩
    have := hc 0 q rfl
    simpa using this
  obtain ⟨f, hfi⟩ := collect (.slice none 0 0, [], 0, 0, fun _ => .slice none 0 0) key
  have hll : ((List.range ys.length).map fun j => (f j).2.1).length = ys.length := by simp
  have hget : ∀ j (h : j < ((List.range ys.length).map fun j => (f j).2.1).length), ((List.range ys.length).map fun j => (f j).2.1)[j]'h = (f j).2.1 := fun j h => by simp
  refine ⟨pv, cv, .mk ((List.range ys.length).map fun j => (f j).2.1) ks, bc, oc, bp, op, fun j => (f j).1, fun j => (f j).2.2.1, fun j => (f j).2.2.2.1, fun j => (f j).2.2.2.2, rfl, ⟨hc1, hc2, ?_, ?_, ?_, ?_, ?_⟩, fun d => ?_⟩
  · show Sl W pv ((List.range ys.length).map fun j => (f j).2.1).length bp op
    rw [hll]
    exact hS
  · intro j hj
    have hj' : j < ys.length := by rw [← hll]; exact hj
    exact (hfi j hj').1
  · intro j hj
    have hj' : j < ys.length := by rw [← hll]; exact hj
    have e := hget j hj
    show Sl W (f j).1 (((List.range ys.length).map fun j => (f j).2.1)[j]'hj).length _ _
    rw [e]
    exact (hfi j hj').2.1
  · intro j hj t ht y u hu
    have hj' : j < ys.length := by rw [← hll]; exact hj
    have e := hget j hj
    have ht' : t < (f j).2.1.length := by
      have h9 : t < (((List.range ys.length).map fun j => (f j).2.1)[j]'hj).length := ht
      rw [e] at h9
      exact h9
    have hu' : (s7 ((f j).2.1[t]'ht').1 ((f j).2.2.2.2 t))[y]? = some u := by
      have h9 : (s7 ((((List.range ys.length).map fun j => (f j).2.1)[j]'hj)[t]'ht).1 ((f j).2.2.2.2 t))[y]? = some u := hu
      rw [get_eq e ht ht'] at h9
      exact h9
    exact (hfi j hj').2.2.1 t ht' y u hu'
  · intro j hj t ht
    have hj' : j < ys.length := by rw [← hll]; exact hj
    have e := hget j hj
    have ht' : t < (f j).2.1.length := by
      have h9 : t < (((List.range ys.length).map fun j => (f j).2.1)[j]'hj).length := ht
      rw [e] at h9
      exact h9
    show ClAt W ((f j).2.2.2.2 t) ((((List.range ys.length).map fun j => (f j).2.1)[j]'hj)[t]'ht).2
    rw [get_eq e ht ht']
    exact (hfi j hj').2.2.2.1 t ht'
  · have h1 := sum_range (fun j => wtP (wt d) (f j).2.1) (fun y : DataW H × List MemPlace => Rows.uptoBulk y.1) ys (fun j h => (hfi j h).2.2.2.2 h d)
    show 1 + ks.length + ((((List.range ys.length).map fun j => (f j).2.1)).map (wtP (wt d))).sum ≤ _
    rw [List.map_map]
    have h2 : ((List.range ys.length).map (wtP (wt d) ∘ fun j => (f j).2.1)).sum = ((List.range ys.length).map fun j => wtP (wt d) (f j).2.1).sum := rfl
    omega
/-- Selectors that came in: a tree, not more than its bulk. -/
theorem open_cl (fuel : Nat) : ∀ (v : Value) (x : DataW H × List MemPlace), DataW.trod enc Tryz.prog W base sp held fuel 27 [v] = some x → ∃ l, ClAt W v l ∧ ∀ d, wt d l ≤ Rows.uptoBulk x.1 := by
  induction fuel using Nat.strongRecOn with
  | _ fuel ih =>
    intro v x hf
    obtain ⟨n, b, off, ys, m1, hm1, hS, hy, hel, hbk⟩ := open_slice Tryz.underlying27 kk25 (by decide) hf
    subst hy
    have key : ∀ i, i < ys.length → ∃ e : (Value × Value × Cx) × (Nat × Nat × Nat × Nat) × (Nat → Value) × (Nat → Nat) × (Nat → Nat) × (Nat → Nat → Value), (W.cell? ⟨b, off + i * 2, none⟩ = some e.1.1 ∧ W.cell? ⟨b, off + i * 2 + 1, none⟩ = some e.1.2.1) ∧ CxAt (ClAt W) W e.1.1 e.1.2.1 e.1.2.2 e.2.1.1 e.2.1.2.1 e.2.1.2.2.1 e.2.1.2.2.2 e.2.2.1 e.2.2.2.1 e.2.2.2.2.1 e.2.2.2.2.2 ∧ ∀ (h : i < ys.length) (d : Nat), wtC (wt d) e.1.2.2 ≤ Rows.uptoBulk (ys[i]'h).1 := fun i hi => by
      obtain ⟨cs, hl, hc, htr⟩ := hel i hi
      obtain ⟨pv, cv, c, bc, oc, bp, op, qv, bq, oq, lv, rfl, h1, h2⟩ := open_cx (M := fuel) (by omega) (fun m' hm' v x h => ih m' hm' v x h) htr hl
      exact ⟨((pv, cv, c), (bc, oc, bp, op), qv, bq, oq, lv), ⟨by simpa using hc 0 pv rfl, hc 1 cv rfl⟩, h1, fun _ d => h2 d⟩
    obtain ⟨f, hfi⟩ := collect ((.slice none 0 0, .slice none 0 0, .mk [] []), (0, 0, 0, 0), (fun _ => .slice none 0 0), (fun _ => 0), (fun _ => 0), (fun _ _ => .slice none 0 0)) key
    have hll : ((List.range ys.length).map fun i => (f i).1.2.2).length = ys.length := by simp
    have hget : ∀ i (h : i < ((List.range ys.length).map fun i => (f i).1.2.2).length), ((List.range ys.length).map fun i => (f i).1.2.2)[i]'h = (f i).1.2.2 := fun i h => by simp
    refine ⟨(List.range ys.length).map fun i => (f i).1.2.2, ?_, fun d => ?_⟩
    · have CX : ∀ i (h : i < ((List.range ys.length).map fun i => (f i).1.2.2).length), CxAt (ClAt W) W (f i).1.1 (f i).1.2.1 (((List.range ys.length).map fun i => (f i).1.2.2)[i]'h) (f i).2.1.1 (f i).2.1.2.1 (f i).2.1.2.2.1 (f i).2.1.2.2.2 (f i).2.2.1 (f i).2.2.2.1 (f i).2.2.2.2.1 (f i).2.2.2.2.2 := fun i h => by
        rw [hget i h]
        rw [hll] at h
        exact (hfi i h).2.1
      refine .mk v _ b off (fun i => (f i).1.1) (fun i => (f i).1.2.1) (fun i => (f i).2.1.1) (fun i => (f i).2.1.2.1) (fun i => (f i).2.1.2.2.1) (fun i => (f i).2.1.2.2.2) (fun i => (f i).2.2.1) (fun i => (f i).2.2.2.1) (fun i => (f i).2.2.2.2.1) (fun i => (f i).2.2.2.2.2) (by rw [hll]; exact hS) (fun i h => (hfi i (by rw [hll] at h; exact h)).1) (fun i h => (CX i h).cs) (fun i h => (CX i h).cc) (fun i h => (CX i h).ps) (fun i h => (CX i h).pc) (fun i h => (CX i h).qs) (fun i h => (CX i h).qc) (fun i h => (CX i h).ls)
    · cases d with
      | zero => exact Nat.zero_le _
      | succ d =>
        have h1 := sum_range (fun i => wtC (wt d) (f i).1.2.2) (fun y : DataW H × List MemPlace => Rows.uptoBulk y.1) ys (fun i h => (hfi i h).2.2 h d)
        show ((((List.range ys.length).map fun i => (f i).1.2.2)).map (wtC (wt d))).sum ≤ _
        rw [List.map_map]
        have h2 : ((List.range ys.length).map (wtC (wt d) ∘ fun i => (f i).1.2.2)).sum = ((List.range ys.length).map fun i => wtC (wt d) (f i).1.2.2).sum := rfl
        omega
end
end Go.Proofs.YtdgkhpkgjkpmnaaGreatDoor.L
