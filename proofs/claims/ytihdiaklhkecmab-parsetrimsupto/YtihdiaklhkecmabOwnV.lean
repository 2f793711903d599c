/- parse.own: values in new memory. -/
import Derived.Test.YtihdiaklhkecmabCutV
import Derived.Deep.MidRow
import Derived.Deep.RegionHeld3
import Derived.Lib.LazyBuf
namespace Go.Proofs.Ytihdiaklhkecmab
open Go.RowKit
set_option maxRecDepth 100000

/-- A row under way in block g: the first i values stand, what is within them lies in other new blocks. -/
def Part (B0 : Nat) (w : World) (g i : Nat) (vs : List V) : Prop :=
  B0 ≤ g ∧ g < w.heap.size ∧ w.there g 0 (vs.length * 6) ∧ ∃ kv : Nat → Value, ∀ j (h : j < vs.length), j < i → w.rangeAt g (j * 6) (vCells (vs[j]'h).tok (kv j)) ∧ VsAt (fun b => B0 ≤ b ∧ b ≠ g) w (kv j) (vs[j]'h).kids
theorem Part.keep {B0 : Nat} {w w' : World} {g i : Nat} {vs : List V} (h : Part B0 w g i vs) (hb : Below w.heap.size w w') : Part B0 w' g i vs := by
  obtain ⟨h1, h2, h3, kv, h4⟩ := h
  refine ⟨h1, Nat.lt_of_lt_of_le h2 hb.size, fun j hj => ?_, kv, fun j hj hi => ⟨fun k v hv => ?_, (h4 j hj hi).2.keep hb⟩⟩
  · rw [hb.cell (p := ⟨g, 0 + j, none⟩) h2, hb.frozen (p := ⟨g, 0 + j, none⟩) h2]
    exact h3 j hj
  · rw [hb.cell (p := ⟨g, j * 6 + k, none⟩) h2]
    exact (h4 j hj hi).1 k v hv
theorem Part.start {w w' : World} {vs : List V} {xs : List Value} (hown : w'.ownsRow w.heap.size 29 6 (.slice (some ⟨w.heap.size, 0, none⟩) vs.length vs.length) vs.length xs) : Part w.heap.size w' w.heap.size 0 vs := by
  refine ⟨Nat.le_refl _, (hown.lt _ rfl).2, fun j hj => ?_, fun _ => .slice none 0 0, fun j _ h => by omega⟩
  rw [Nat.zero_add]
  refine ⟨?_, hown.frozenAt j⟩
  rw [hown.cellAt j hj]
  have := hown.1
  simp [this, hj]
theorem size_setCellsV (b : Nat) : ∀ (vs : List Value) (o : Nat) (w : World), (w.setCells b o vs).heap.size = w.heap.size
  | [], _, _ => rfl
  | v :: r, o, w => (size_setCellsV b r (o + 1) _).trans (by simp)
theorem heap_setCellsV (g : Nat) : ∀ (vs : List Value) (o : Nat) (w : World) (b : Nat), b ≠ g → (w.setCells g o vs).heap[b]? = w.heap[b]?
  | [], _, _, _, _ => rfl
  | v :: r, o, w, b, h => (heap_setCellsV g r (o + 1) _ b h).trans (Below.heap_setCell w ⟨g, o, none⟩ v b h)
theorem Part.step {B0 : Nat} {w : World} {g i : Nat} {vs : List V} (h : Part B0 w g i vs) (hi : i < vs.length) {kid : Value} (hk : VsAt (fun b => B0 ≤ b ∧ b ≠ g) w kid (vs[i]'hi).kids) : Part B0 (w.setCells g (i * 6) (vCells (vs[i]'hi).tok kid)) g (i + 1) vs := by
  obtain ⟨h1, h2, h3, kv, h4⟩ := h
  have hs : (w.setCells g (i * 6) (vCells (vs[i]'hi).tok kid)).heap.size = w.heap.size := size_setCellsV ..
  have hoth : ∀ b, B0 ≤ b ∧ b ≠ g → b < w.heap.size → (w.setCells g (i * 6) (vCells (vs[i]'hi).tok kid)).heap[b]? = w.heap[b]? := fun b hb hlt => heap_setCellsV g _ (i * 6) w b hb.2
  refine ⟨h1, by omega, World.there_setCells h3 _ _ _, fun j => if j = i then kid else kv j, fun j hj hlt => ?_⟩
  by_cases e : j = i
  · subst e
    simp only [if_true]
    refine ⟨World.rangeAt_setCells_same w g (j * 6) _ (fun k hk6 => ?_), hk.stay (by omega) hoth⟩
    have hk6' : k < 6 := by simpa [vCells] using hk6
    have := h3 (j * 6 + k) (by omega)
    rwa [Nat.zero_add] at this
  · simp only [if_neg e]
    obtain ⟨r1, r2⟩ := h4 j hj (by omega)
    refine ⟨World.rangeAt_setCells_apart r1 g (i * 6) _ (.inr (.inl ?_)), r2.stay (by omega) hoth⟩
    simp [vCells]
    omega
theorem Part.done {B0 : Nat} {w : World} {g : Nat} {vs : List V} (h : Part B0 w g vs.length vs) (hm : vs.length ≤ 9223372036854775807) : VsAt (fun b => B0 ≤ b) w (.slice (some ⟨g, 0, none⟩) vs.length vs.length) vs := by
  obtain ⟨h1, h2, h3, kv, h4⟩ := h
  refine .mk _ _ vs g 0 kv (Nat.le_refl _) hm (fun _ => ⟨rfl, h2, h1⟩) (fun i hi j y hy => ?_) (fun i hi => (h4 i hi hi).2.wider (fun b hb _ => hb.1))
  rw [Nat.zero_add]
  exact (h4 i hi hi).1 j y hy

/-- Nowhere too many. -/
inductive V.most : List V → Prop
  | mk (vs : List V) (h : vs.length ≤ 1000000000) (hk : ∀ x ∈ vs, V.most x.kids) : V.most vs
theorem V.most.len {vs : List V} (h : V.most vs) : vs.length ≤ 1000000000 := by cases h; assumption
theorem V.most.kid {vs : List V} (h : V.most vs) {x : V} (hx : x ∈ vs) : V.most x.kids := by
  cases h with
  | mk _ _ hk => exact hk x hx
set_option maxHeartbeats 4000000 in
theorem own_any {P : Nat → Prop} {W : World} {v : Value} {vs : List V} (h : VsAt P W v vs) : ∀ w, Below W.heap.size W w → V.most vs → Calls Try.prog 13 #[v] w fun e w' => ∃ out, e = .returned out ∧ VsAt (fun b => w.heap.size ≤ b) w' out vs ∧ Below w.heap.size w w' := by
  obtain ⟨i0, hi0, hz0, hz1, hz2⟩ := info_parts Try.info29
  induction h with
  | mk a cap vs b off kv h1 h2 ha hc hr ih =>
    intro w hw hm
    have hn := hm.len
    have HM := hid_mk hm
    have HA := hid_mk ha
    have HC := hid_mk hc
    have HR := hid_mk hr
    have HI := hid_mk ih
    have HW := hid_mk hw
    clear ha hc hr ih hw hm
    by_cases h0 : vs.length = 0
    · have hvs : vs = [] := List.length_eq_zero_iff.1 h0
      clear h0
      subst hvs
      go_enter Try.func13, Try.ntmps13
      go_wp2
      go_ret
      exact ⟨_, rfl, VsAt.nil _ _, Below.refl _ _⟩
    · have hpos : 0 < vs.length := by omega
      have hzz : ((vs.length : Int) == 0) = false := beq_eq_false_iff_ne.2 (by omega)
      obtain ⟨w5, hr5, hown5, hgr5⟩ := run_make_full (P := Try.prog) w w.heap.size 22 29 i0 _ 6 Try.underlying22 hi0 hz0 hz1 .i64 .i64 vs.length (by rw [hz2]; omega) (by unfold maxLen; omega) (Nat.le_refl _)
      have HP : Hid (Part w.heap.size w5 w.heap.size 0 vs) := Part.start hown5
      have HB : Hid (Below w.heap.size w w5) := (Below.refl _ w).grown hgr5 (Nat.le_refl _) (fun k e => by cases e)
      obtain ⟨ea, hbl, _⟩ := HA.out hpos
      subst ea
      clear hown5 hgr5 HA
      go_enter Try.func13, Try.ntmps13
      go_wp2
      clear hr5
      go_loopw [14] (fun a14 wr => ∃ (i : Nat), i ≤ vs.length ∧ a14 = .int .i64 (i : Int) ∧ Part w.heap.size wr w.heap.size i vs ∧ Below w.heap.size w wr) (fun a14 _ => vs.length + 1 - (intOf a14).toNat)
      case atStart => exact ⟨0, Nat.zero_le _, rfl, HP.out, HB.out⟩
      case round =>
        obtain ⟨i, hi, rfl, hP, hB⟩ := hrel
        clear HP HB
        by_cases hlt : i < vs.length
        · have hWB : Below W.heap.size W wr := HW.out.trans (hB.mono HW.out.size)
          have hq := fun j y hy => (hWB.cell (p := ⟨b, off + i * 6 + j, none⟩) hbl).trans (HC.out i hlt j y hy)
          obtain ⟨ka, kc, ek, _, hkm⟩ := (HR.out i hlt).slice
          have hrec := fun w' (hw' : Below W.heap.size W w') => HI.out i hlt w' hw' (HM.out.kid (List.getElem_mem hlt))
          have hst := fun w' (h' : Part w.heap.size w' w.heap.size i vs) kid hk => h'.step (kid := kid) hlt hk
          have hbl2 : b < wr.heap.size := Nat.lt_of_lt_of_le hbl hWB.size
          rw [ek] at hrec hq
          generalize (vs[i]'hlt).tok = t at *
          generalize (vs[i]'hlt).kids = ks at *
          obtain ⟨tk, tx, un, wh, fl⟩ := t
          have q0 : wr.cell? ⟨b, off + i * 6, none⟩ = some (.int .i64 tk) := hq 0 _ rfl
          have q1 : wr.cell? ⟨b, off + i * 6 + 1, none⟩ = some (.string tx) := hq 1 _ rfl
          have q2 : wr.cell? ⟨b, off + i * 6 + 2, none⟩ = some (.string un) := hq 2 _ rfl
          have q3 : wr.cell? ⟨b, off + i * 6 + 3, none⟩ = some (.bool wh) := hq 3 _ rfl
          have q4 : wr.cell? ⟨b, off + i * 6 + 4, none⟩ = some (.bool fl) := hq 4 _ rfl
          have q5 : wr.cell? ⟨b, off + i * 6 + 5, none⟩ = some (.slice ka ks.length kc) := hq 5 _ rfl
          have hbl0 := heap_alloc_new wr (.cells #[.int .i64 tk, .string tx, .string un, .bool wh, .bool fl, .slice ka ks.length kc] 29)
          have hAl : Below wr.heap.size wr (wr.alloc (.cells #[.int .i64 tk, .string tx, .string un, .bool wh, .bool fl, .slice ka ks.length kc] 29)) := (Below.refl _ wr).alloc (Nat.le_refl _) _
          have HREC := hid_mk hrec
          have HST := hid_mk hst
          have HPB := hid_mk (And.intro hP (And.intro hB hWB))
          clear hq hrec hst ek hP hWB HC HR HI HM hB
          go_upto_region 7 with fail
          have hsA : (wr.alloc (.cells #[.int .i64 tk, .string tx, .string un, .bool wh, .bool fl, .slice ka ks.length kc] 29)).heap.size = wr.heap.size + 1 := by simp
          generalize wr.alloc (.cells #[.int .i64 tk, .string tx, .string un, .bool wh, .bool fl, .slice ka ks.length kc] 29) = WA at *
          have hgl := HPB.out.1.2.1
          have HPA : Hid (∀ w', Below WA.heap.size WA w' → Part w.heap.size w' w.heap.size i vs) := fun w' hw' => HPB.out.1.keep (hAl.trans (hw'.mono hAl.size))
          have HBA : Hid (∀ w', Below WA.heap.size WA w' → Below w.heap.size w w') := fun w' hw' => HPB.out.2.1.trans ((hAl.trans (hw'.mono hAl.size)).mono HPB.out.2.1.size)
          have HFA : Hid (∀ w', Below WA.heap.size WA w' → w'.heap[wr.heap.size]? = some (.cells #[.int .i64 tk, .string tx, .string un, .bool wh, .bool fl, .slice ka ks.length kc] 29 (0, 0))) := fun w' hw' => (hw'.block _ (by omega)).trans hbl0
          have HF1 : Hid (∀ w', Below WA.heap.size WA w' → w'.cell? ⟨wr.heap.size, 0, none⟩ = some (.int .i64 tk) ∧ w'.cell? ⟨wr.heap.size, 1, none⟩ = some (.string tx) ∧ w'.cell? ⟨wr.heap.size, 2, none⟩ = some (.string un) ∧ w'.cell? ⟨wr.heap.size, 3, none⟩ = some (.bool wh) ∧ w'.cell? ⟨wr.heap.size, 4, none⟩ = some (.bool fl) ∧ w'.cell? ⟨wr.heap.size, 5, none⟩ = some (.slice ka ks.length kc)) := fun w' hw' => tok6 (HFA.out w' hw')
          have HF2 : Hid (∀ w' ao co, Below WA.heap.size WA w' → ((((((w'.setCell ⟨w.heap.size, i * 6, none⟩ (.int .i64 tk)).setCell ⟨w.heap.size, i * 6 + 1, none⟩ (.string tx)).setCell ⟨w.heap.size, i * 6 + 2, none⟩ (.string un)).setCell ⟨w.heap.size, i * 6 + 3, none⟩ (.bool wh)).setCell ⟨w.heap.size, i * 6 + 4, none⟩ (.bool fl)).setCell ⟨w.heap.size, i * 6 + 5, none⟩ (.slice ao ks.length co)).cell? ⟨wr.heap.size, 0, none⟩ = some (.int .i64 tk) ∧ ((((((w'.setCell ⟨w.heap.size, i * 6, none⟩ (.int .i64 tk)).setCell ⟨w.heap.size, i * 6 + 1, none⟩ (.string tx)).setCell ⟨w.heap.size, i * 6 + 2, none⟩ (.string un)).setCell ⟨w.heap.size, i * 6 + 3, none⟩ (.bool wh)).setCell ⟨w.heap.size, i * 6 + 4, none⟩ (.bool fl)).setCell ⟨w.heap.size, i * 6 + 5, none⟩ (.slice ao ks.length co)).cell? ⟨wr.heap.size, 1, none⟩ = some (.string tx) ∧ ((((((w'.setCell ⟨w.heap.size, i * 6, none⟩ (.int .i64 tk)).setCell ⟨w.heap.size, i * 6 + 1, none⟩ (.string tx)).setCell ⟨w.heap.size, i * 6 + 2, none⟩ (.string un)).setCell ⟨w.heap.size, i * 6 + 3, none⟩ (.bool wh)).setCell ⟨w.heap.size, i * 6 + 4, none⟩ (.bool fl)).setCell ⟨w.heap.size, i * 6 + 5, none⟩ (.slice ao ks.length co)).cell? ⟨wr.heap.size, 2, none⟩ = some (.string un) ∧ ((((((w'.setCell ⟨w.heap.size, i * 6, none⟩ (.int .i64 tk)).setCell ⟨w.heap.size, i * 6 + 1, none⟩ (.string tx)).setCell ⟨w.heap.size, i * 6 + 2, none⟩ (.string un)).setCell ⟨w.heap.size, i * 6 + 3, none⟩ (.bool wh)).setCell ⟨w.heap.size, i * 6 + 4, none⟩ (.bool fl)).setCell ⟨w.heap.size, i * 6 + 5, none⟩ (.slice ao ks.length co)).cell? ⟨wr.heap.size, 3, none⟩ = some (.bool wh) ∧ ((((((w'.setCell ⟨w.heap.size, i * 6, none⟩ (.int .i64 tk)).setCell ⟨w.heap.size, i * 6 + 1, none⟩ (.string tx)).setCell ⟨w.heap.size, i * 6 + 2, none⟩ (.string un)).setCell ⟨w.heap.size, i * 6 + 3, none⟩ (.bool wh)).setCell ⟨w.heap.size, i * 6 + 4, none⟩ (.bool fl)).setCell ⟨w.heap.size, i * 6 + 5, none⟩ (.slice ao ks.length co)).cell? ⟨wr.heap.size, 4, none⟩ = some (.bool fl) ∧ ((((((w'.setCell ⟨w.heap.size, i * 6, none⟩ (.int .i64 tk)).setCell ⟨w.heap.size, i * 6 + 1, none⟩ (.string tx)).setCell ⟨w.heap.size, i * 6 + 2, none⟩ (.string un)).setCell ⟨w.heap.size, i * 6 + 3, none⟩ (.bool wh)).setCell ⟨w.heap.size, i * 6 + 4, none⟩ (.bool fl)).setCell ⟨w.heap.size, i * 6 + 5, none⟩ (.slice ao ks.length co)).cell? ⟨wr.heap.size, 5, none⟩ = some (.slice ka ks.length kc)) := fun w' ao co hw' => tok6 ((heap_setCellsV w.heap.size [.int .i64 tk, .string tx, .string un, .bool wh, .bool fl, .slice ao ks.length co] (i * 6) w' wr.heap.size (by omega)).trans (HFA.out w' hw'))
          have HTH : Hid (∀ w', Below WA.heap.size WA w' → w'.there w.heap.size (i * 6) 6) := fun w' hw' j hj => by
            have := (HPA.out w' hw').2.2.1 (i * 6 + j) (by omega)
            rwa [Nat.zero_add] at this
          have HCL : Hid (∀ w', Below WA.heap.size WA w' → Calls Try.prog 13 #[.slice ka ks.length kc] w' fun e w'' => ∃ ao co, e = .returned (.slice ao ks.length co) ∧ VsAt (fun b => WA.heap.size ≤ b) w'' (.slice ao ks.length co) ks ∧ Below WA.heap.size WA w'' ∧ (∃ c, w''.cell? ⟨w.heap.size, i * 6, none⟩ = some c) ∧ w''.frozen? ⟨w.heap.size, i * 6, none⟩ = false ∧ (∃ c, w''.cell? ⟨w.heap.size, i * 6 + 1, none⟩ = some c) ∧ w''.frozen? ⟨w.heap.size, i * 6 + 1, none⟩ = false ∧ (∃ c, w''.cell? ⟨w.heap.size, i * 6 + 2, none⟩ = some c) ∧ w''.frozen? ⟨w.heap.size, i * 6 + 2, none⟩ = false ∧ (∃ c, w''.cell? ⟨w.heap.size, i * 6 + 3, none⟩ = some c) ∧ w''.frozen? ⟨w.heap.size, i * 6 + 3, none⟩ = false ∧ (∃ c, w''.cell? ⟨w.heap.size, i * 6 + 4, none⟩ = some c) ∧ w''.frozen? ⟨w.heap.size, i * 6 + 4, none⟩ = false ∧ (∃ c, w''.cell? ⟨w.heap.size, i * 6 + 5, none⟩ = some c) ∧ w''.frozen? ⟨w.heap.size, i * 6 + 5, none⟩ = false) := fun w' hw' =>
            (HREC.out w' (HPB.out.2.2.trans ((hAl.trans (hw'.mono hAl.size)).mono HPB.out.2.2.size))).mono fun e w'' ⟨out, he, hv, hb⟩ => by
              obtain ⟨ao, co, rfl, _, _⟩ := hv.slice
              have h6 := hw'.trans (hb.mono hw'.size)
              have hth := fun j hj => HTH.out w'' h6 j hj
              have hp := fun j hj => Option.isSome_iff_exists.1 (hth j hj).1
              exact ⟨ao, co, he, hv.wider (fun b hb' _ => Nat.le_trans hw'.size hb'), h6, hp 0 (by omega), (hth 0 (by omega)).2, hp 1 (by omega), (hth 1 (by omega)).2, hp 2 (by omega), (hth 2 (by omega)).2, hp 3 (by omega), (hth 3 (by omega)).2, hp 4 (by omega), (hth 4 (by omega)).2, hp 5 (by omega), (hth 5 (by omega)).2⟩
          have HPS : Hid (∀ w2 out, Below WA.heap.size WA w2 → VsAt (fun b => WA.heap.size ≤ b) w2 out ks → Part w.heap.size (w2.setCells w.heap.size (i * 6) [.int .i64 tk, .string tx, .string un, .bool wh, .bool fl, out]) w.heap.size (i + 1) vs ∧ Below w.heap.size w (w2.setCells w.heap.size (i * 6) [.int .i64 tk, .string tx, .string un, .bool wh, .bool fl, out])) := fun w2 out hw2 hv =>
            ⟨HST.out w2 (HPA.out w2 hw2) out (hv.wider (fun b hb _ => ⟨by omega, by omega⟩)), below_setCells (Nat.le_refl _) _ _ _ (HBA.out w2 hw2)⟩
          have gd : Below WA.heap.size WA WA.drew := below_drewN5 _ WA 1
          have hs6 : (Try.prog.info? 29).map (·.size) = some 6 := by rw [hi0, Option.map_some, hz1]
          clear HREC HST HPB hAl hbl0 HPA HBA HFA HW q0 q1 q2 q3 q4 q5 hi0 hz0 hz1 hz2
          go_region_held3 (fun w' => w'.cell? ⟨wr.heap.size, 0, none⟩ = some (.int .i64 tk) ∧ w'.cell? ⟨wr.heap.size, 1, none⟩ = some (.string tx) ∧ w'.cell? ⟨wr.heap.size, 2, none⟩ = some (.string un) ∧ w'.cell? ⟨wr.heap.size, 3, none⟩ = some (.bool wh) ∧ w'.cell? ⟨wr.heap.size, 4, none⟩ = some (.bool fl) ∧ w'.cell? ⟨wr.heap.size, 5, none⟩ = some (.slice ka ks.length kc)) (first | with_reducible exact HF1.out _ gd | with_reducible exact HF1.out _ g2 | with_reducible exact HF2.out w2 ao co g2 | exact HF2.out w2 ao co g2) (first
            | (go_at_call 13; refine (HCL.out _ ?_).mono ?_; assumption; rintro e w2 ⟨ao, co, rfl, hv2, g2, ⟨c0, e0⟩, f0, ⟨c1, e1⟩, f1, ⟨c2, e2⟩, f2, ⟨c3, e3⟩, f3, ⟨c4, e4⟩, f4, ⟨c5, e5⟩, f5⟩))
          all_goals
            have HPF := HPS.out w2 (.slice ao ks.length co) g2 hv2
            have HPG := hid_mk HPF
            clear HPF HPS HCL HF1 HF2 HTH hv2 e0 e1 e2 e3 e4 e5 f0 f1 f2 f3 f4 f5
            go_wp2
            go_roundw
            case rel => exact ⟨i + 1, by omega, by go_num, HPG.out.1, HPG.out.2⟩
            case measure => simp [intOf]; omega
        · obtain rfl : i = vs.length := by omega
          have HD := hid_mk (hP.done (by omega))
          clear hP HC HR HI HM HW
          go_wp2
          go_ret
          exact ⟨_, rfl, HD.out, hB⟩

end Go.Proofs.Ytihdiaklhkecmab
