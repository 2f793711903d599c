/- TrieNone: the walk. -/
import Derived.Test.YtnmpakjklbamiaaAll
namespace Go.Proofs.Ytnmpakjklbamiaa
open Go.RowKit Go.Shelf S
set_option maxRecDepth 100000
attribute [local go_sem] Oper.semAt_some

theorem neq_same (w : World) (a : Addr) : (binOp .neq 25 (.pointer (some a)) (.pointer (some a))).run Try.prog w = .ok (.bool false) w := by
  have hs : (Try.prog.info? 53).map (·.size) = some 3 := by kernel_rfl
  cases hj : Try.prog.info? 53 with
  | none => rw [hj] at hs; cases hs
  | some j =>
    have h : ∀ d : Nat, (Op.equalIn (d + 1) 25 (.pointer (some a)) (.pointer (some a))).run Try.prog w = .ok true w := fun d => by
      simp [Op.equalIn, run_underlying Try.underlying25, sizeOf, typeInfo, hj, run_sameAddr_same]
    simp only [binOp]
    simp [Op.equal, Op.maxDepth, h 9999]
theorem idx0 (x y : Option Addr) (w : World) : (Instr.index 54 (.agg #[.pointer x, .pointer y]) (.int .i64 0)).run Try.prog w = .ok (.pointer x) w := by
  have z := Try.sizeOf25
  have a := Try.isAgg25
  simp [Instr.index, part, go_sem, run_underlying Try.underlying54, z, a]
theorem idx1 (x y : Option Addr) (w : World) : (Instr.index 54 (.agg #[.pointer x, .pointer y]) (.int .i64 1)).run Try.prog w = .ok (.pointer y) w := by
  have z := Try.sizeOf25
  have a := Try.isAgg25
  simp [Instr.index, part, go_sem, run_underlying Try.underlying54, z, a]
theorem range_none {g : Operand} {ps : Array Tmp} {body : Code} {Q : Exit → Act → World → Prop} {a : Act} {w : World} {Bt : Nat} (hg : a.eval g = .func (.func 42) #[] #[.pointer (some ⟨Bt, 0, none⟩)]) (hps : 2 = ps.size) (hb : w.heap[Bt]? = some (.cells #[.pointer none] 51 (0, 0)))
    (hdone : ∀ D W, w.heap.size ≤ D → Below w.heap.size w W → W.heap[D]? = some (.deferred (some [])) → Q .normal { a with defers := { target := .collected D, args := #[] } :: a.defers } W) :
    (Code.rangeFunc g ps .skip body).wpIn Fence.wide 9 Try.prog Q a w := by
  refine wpIn_rangeFunc_ownF rfl (by omega) (gf := 42) (lb := #[.pointer (some ⟨Bt, 0, none⟩)]) hg trivial (enters_of Try.func42 (by kernel_rfl) rfl)
    (all_stops 0 0 8 .nil w Bt (wfT.nil 5) trivial trivial trivial (Nat.zero_le _) hb) KeepC.trans (fun W l o o' _ h hc _ => KeepC.put W l o o' h hc) (Below.refl _ _) (fun _ => hps)
    (fun _ W => Below w.heap.size w W) (fun _ _ _ => False) (ownFrom_below (Nat.le_refl _) (Nat.le_refl _)) (fun _ _ _ _ _ hs _ _ => hs) (Below.refl _ _)
    (fun x => { tmps := (ps.zip (encP x)).foldl (fun t (p, v) => t.setIfInBounds p v) a.tmps, defers := [] }) ?assign ?body ?done ?stop
  case assign =>
    intro l x W K hK
    exact wpIn_skip hK
  case body =>
    intro l pre x W _ h
    exact absurd h (by simp [ents])
  case stop =>
    rintro D c pre W _ _ h _
    exact h.elim
  case done =>
    rintro D ys W hD _ hBW hK
    exact hdone D W hD hBW hK
set_option maxHeartbeats 8000000 in
theorem none_walk (w : World) (n : Int) (s : ByteArray) : Calls Try.prog 6 #[.int .i64 n, .string s] w fun e w' => e = .returned (.bool true) ∧ Below w.heap.size w w' := by
  have hfn : ∀ f, Fence.wide.fn f := fun _ => trivial
  have hdd : ∀ k : Nat, (Fence.wide.depth.isSome = true → 1 ≤ k) := fun k h => by cases h
  obtain ⟨wA, hwA⟩ : ∃ wA, wA = (w.alloc (.cells #[.bool false] 4)).alloc (.cells #[.pointer none, .int .i64 0, .int .i64 0] 53) := ⟨_, rfl⟩
  have hs1 : (w.alloc (.cells #[.bool false] 4)).heap.size = w.heap.size + 1 := by simp
  have hBA : Below w.heap.size w wA := by rw [hwA]; exact ((Below.refl _ w).alloc (Nat.le_refl _) _).alloc (by rw [hs1]; omega) _
  have hzA : wA.heap[w.heap.size + 1]? = some (.cells #[.pointer none, .int .i64 0, .int .i64 0] 53) := by rw [hwA, ← hs1]; exact heap_alloc_last _ _
  have hrA : wA.heap[w.heap.size]? = some (.cells #[.bool false] 4) := by
    rw [hwA, Below.heap_alloc _ _ _ (by rw [hs1]; omega)]
    exact heap_alloc_last w _
  have hT1 : S.At wA (.pointer none) .nil := ⟨trivial, wfT.nil 5, fun _ _ => trivial, .inl ⟨rfl, rfl⟩⟩
  have hT2 : S.At wA (.pointer (some ⟨w.heap.size + 1, 0, none⟩)) .nil := ⟨trivial, wfT.nil 5, fun _ _ => trivial, .inr ⟨_, rfl, hzA⟩⟩
  have HWA := hid_mk hwA.symm
  have HBA := hid_mk hBA
  have HRA := hid_mk hrA
  have HT1 := hid_mk hT1
  have HT2A := hid_mk hT2
  clear hwA hs1 hBA hzA hrA hT1 hT2
  have HPUT : Hid (∀ tp W, S.At W tp .nil → Calls Try.prog 13 #[tp, .int .i64 n, .string s] W fun e w' => ∃ tp' t', e = .returned tp' ∧ S.At w' tp' t' ∧ getV t' n = (if inR n then some (.string s) else none) ∧ Below W.heap.size W w') := fun tp W hT => (put_c hT n s).mono fun e w' ⟨tp', t', he, hT', _, hG, _, _, hB⟩ => ⟨tp', t', he, hT', by
    rw [hG n]
    by_cases hn : inR n
    · rw [if_pos ⟨rfl, hn⟩, if_pos hn]
    · rw [if_neg (fun h => hn h.2), if_neg hn, nil_getV], hB⟩
  have hf15 := hfn 15
  have hf25 := hfn 25
  have hf26 := hfn 26
  have hf27 := hfn 27
  have hf11 := hfn 11
  have hf13 := hfn 13
  have hf9 := hfn 9
  have hix0 := idx0
  have hix1 := idx1
  have hneq := neq_same
  have hfnil := fn_nil
  have hcase : (0 ≤ n ∧ n < 1048576) ∨ n < 0 ∨ (0 ≤ n ∧ 1048576 ≤ n) := by omega
  refine (callsIn_wide (n := 9)).1 ?_
  refine callsIn_of_wp_marks Try.func6 rfl trivial ?_ rfl
  simp only [Try.ntmps6, List.size_toArray, List.length_cons, List.length_nil, Nat.reduceAdd, Nat.reduceSub, Array.replicate_succ, Array.replicate_zero, List.push_toArray, List.append_toArray, List.nil_append, List.cons_append]
  gi_wp2
  rw [HWA.out]
  refine wpIn_loop_rounds 3 ?_
  rcases hcase with ⟨hx1, hx2⟩ | hx1 | ⟨hx1, hx2⟩
  · have hn : inR n := ⟨hx1, hx2⟩
    rw [if_pos hn] at HPUT
    clear hn
    have qa1 : Calls Try.prog 15 #[.pointer none, .int .i64 n] wA fun e w' => e = .returned (.tuple #[.string ⟨#[]⟩, .bool false]) ∧ Below wA.heap.size wA w' := by
      have := get_c HT1.out n
      rw [nil_getV] at this
      exact this
    rw [roundsIn_succ]
    gi_wp2_with (first
      | ((try refine ⟨hdd _, ?_⟩); gi_at_call 15; refine (callsIn_wide.2 qa1).mono ?_; clear qa1; rintro e wa1 ⟨rfl, hB1⟩; have q2 := all_any (TrAt.keep HT1.out hB1))
      | ((try refine ⟨hdd _, ?_⟩); gi_at_call 25; refine (callsIn_wide.2 q2).mono ?_; clear q2; rintro e wa2 ⟨rfl, hw2⟩; have hB2' : Below wa1.heap.size wa1 wa2 := (by rw [hw2]; exact balloc (Below.refl _ _) _); have hB2 := hB1.trans (hB2'.mono hB1.size); have hbx : wa2.heap[wa1.heap.size]? = some (.cells #[.pointer none] 51) := (by rw [hw2]; exact heap_alloc_last _ _); have HT2 := hid_mk (TrAt.keep HT1.out hB2); have HBX := hid_mk hbx; clear hw2 hB2' hbx; have q3 := len_any HT2.out; have q4 := nodes_any HT2.out; have q5 := drop_none HT2.out n (getV_none HT2.out.wf (nil_getV n)))
      | ((try refine ⟨hdd _, ?_⟩); gi_at_call 26; refine (callsIn_wide.2 q3).mono ?_; clear q3; rintro e wa3 ⟨rfl, rfl⟩; rw [show ((szT T.nil : Nat) : Int) = 0 from rfl])
      | ((try refine ⟨hdd _, ?_⟩); gi_at_call 27; refine (callsIn_wide.2 q4).mono ?_; clear q4; rintro e wa3 ⟨rfl, rfl⟩; rw [show ((cntT T.nil : Nat) : Int) = 0 from rfl])
      | ((try refine ⟨hdd _, ?_⟩); gi_at_call 11; refine (callsIn_wide.2 q5).mono ?_; clear q5; rintro e wa4 ⟨rfl, hB4⟩))
    have hB5 := hB2.trans (hB4.mono hB2.size)
    have HBX5 := hid_mk ((hB4.block _ (Array.getElem?_eq_some_iff.1 HBX.out).1).trans HBX.out)
    clear HBX HT2 hB1 hB2 hB4
    refine range_none rfl rfl HBX5.out ?_
    rintro Da Wa hD hBW hK
    have hBW5 := hB5.trans (hBW.mono hB5.size)
    have HTW := hid_mk (TrAt.keep HT1.out hBW5)
    have HKa := hid_mk hK
    have HDa := hid_mk (Nat.le_trans hB5.size hD)
    clear hK hD hBW hB5 HBX5
    have q6 := HPUT.out _ Wa HTW.out
    gi_wp2_with (first
      | ((try refine ⟨hdd _, ?_⟩); gi_at_call 13; refine (callsIn_wide.2 q6).mono ?_; clear q6; rintro e wa6 ⟨tp6, t6, rfl, hT6, hg6, hB6⟩; have q7 := get_c hT6 n; rw [hg6] at q7; have hB7 := hBW5.trans (hB6.mono hBW5.size); obtain ⟨x6, rfl⟩ := hT6.ptr; clear hT6 hg6)
      | ((try refine ⟨hdd _, ?_⟩); gi_at_call 15; refine (callsIn_wide.2 q7).mono ?_; clear q7; rintro e wa7 ⟨rfl, hB8⟩))
    have HBa := hid_mk (hB7.trans (hB8.mono hB7.size))
    have HMa := hid_mk (((hB6.trans (hB8.mono hB6.size)).block _ (Array.getElem?_eq_some_iff.1 HKa.out).1).trans HKa.out)
    clear hB7 hB8 hB6 hBW5 HTW
    have HT2B := hid_mk (TrAt.keep HT2A.out HBa.out)
    have qb1 : Calls Try.prog 15 #[.pointer (some ⟨w.heap.size + 1, 0, none⟩), .int .i64 n] wa7 fun e w' => e = .returned (.tuple #[.string ⟨#[]⟩, .bool false]) ∧ Below wa7.heap.size wa7 w' := by
      have := get_c HT2B.out n
      rw [nil_getV] at this
      exact this
    rw [roundsIn_succ]
    gi_wp2_with (first
      | ((try refine ⟨hdd _, ?_⟩); gi_at_call 15; refine (callsIn_wide.2 qb1).mono ?_; clear qb1; rintro e wb1 ⟨rfl, hB1⟩; have q2 := all_any (TrAt.keep HT2B.out hB1))
      | ((try refine ⟨hdd _, ?_⟩); gi_at_call 25; refine (callsIn_wide.2 q2).mono ?_; clear q2; rintro e wb2 ⟨rfl, hw2⟩; have hB2' : Below wb1.heap.size wb1 wb2 := (by rw [hw2]; exact balloc (Below.refl _ _) _); have hB2 := hB1.trans (hB2'.mono hB1.size); have hbx : wb2.heap[wb1.heap.size]? = some (.cells #[.pointer none] 51) := (by rw [hw2]; exact heap_alloc_last _ _); have HT2 := hid_mk (TrAt.keep HT2B.out hB2); have HBX := hid_mk hbx; clear hw2 hB2' hbx; have q3 := len_any HT2.out; have q4 := nodes_any HT2.out; have q5 := drop_none HT2.out n (getV_none HT2.out.wf (nil_getV n)))
      | ((try refine ⟨hdd _, ?_⟩); gi_at_call 26; refine (callsIn_wide.2 q3).mono ?_; clear q3; rintro e wb3 ⟨rfl, rfl⟩; rw [show ((szT T.nil : Nat) : Int) = 0 from rfl])
      | ((try refine ⟨hdd _, ?_⟩); gi_at_call 27; refine (callsIn_wide.2 q4).mono ?_; clear q4; rintro e wb3 ⟨rfl, rfl⟩; rw [show ((cntT T.nil : Nat) : Int) = 0 from rfl])
      | ((try refine ⟨hdd _, ?_⟩); gi_at_call 11; refine (callsIn_wide.2 q5).mono ?_; clear q5; rintro e wb4 ⟨rfl, hB4⟩))
    have hB5 := hB2.trans (hB4.mono hB2.size)
    have HBX5 := hid_mk ((hB4.block _ (Array.getElem?_eq_some_iff.1 HBX.out).1).trans HBX.out)
    clear HBX HT2 hB1 hB2 hB4
    refine range_none rfl rfl HBX5.out ?_
    rintro Db Wb hD hBW hK
    have hBW5 := hB5.trans (hBW.mono hB5.size)
    have HTW := hid_mk (TrAt.keep HT2B.out hBW5)
    have HKb := hid_mk hK
    have HDb := hid_mk (Nat.le_trans hB5.size hD)
    clear hK hD hBW hB5 HBX5
    have q6 := HPUT.out _ Wb HTW.out
    gi_wp2_with (first
      | ((try refine ⟨hdd _, ?_⟩); gi_at_call 13; refine (callsIn_wide.2 q6).mono ?_; clear q6; rintro e wb6 ⟨tp6, t6, rfl, hT6, hg6, hB6⟩; have q7 := get_c hT6 n; rw [hg6] at q7; have hB7 := hBW5.trans (hB6.mono hBW5.size); obtain ⟨x6, rfl⟩ := hT6.ptr; clear hT6 hg6)
      | ((try refine ⟨hdd _, ?_⟩); gi_at_call 15; refine (callsIn_wide.2 q7).mono ?_; clear q7; rintro e wb7 ⟨rfl, hB8⟩))
    have HBb := hid_mk (hB7.trans (hB8.mono hB7.size))
    have HMb := hid_mk (((hB6.trans (hB8.mono hB6.size)).block _ (Array.getElem?_eq_some_iff.1 HKb.out).1).trans HKb.out)
    clear hB7 hB8 hB6 hBW5 HTW
    rw [roundsIn_succ]
    have hlv := fun w' => lives_any w'
    have hBab := HBa.out.trans (HBb.out.mono HBa.out.size)
    have hrc : wb7.heap[w.heap.size]? = some (.cells #[.bool false] 4) := (hBab.block _ (Array.getElem?_eq_some_iff.1 HRA.out).1).trans HRA.out
    gi_wp2_with ((try refine ⟨hdd _, ?_⟩); gi_at_call 9; refine (callsIn_wide.2 (hlv _)).mono ?_; rintro e wz ⟨rfl, hBz⟩; have hrz := (hBz.block _ (Array.getElem?_eq_some_iff.1 hrc).1).trans hrc; have hcz : wz.cell? ⟨w.heap.size, 0, none⟩ = some (.bool false) := (by rw [cell_of_row _ _ _ _ _ _ hrz]; rfl); have hfz : wz.frozen? ⟨w.heap.size, 0, none⟩ = false := (by simp [World.frozen?, hrz]))
    obtain ⟨X, hX⟩ : ∃ X, X = wz.setCell ⟨w.heap.size, 0, none⟩ (.bool true) := ⟨_, rfl⟩
    rw [← hX]
    have hDa := (Array.getElem?_eq_some_iff.1 HMa.out).1
    have hWA : w.heap.size < wA.heap.size := (Array.getElem?_eq_some_iff.1 HRA.out).1
    have hDA := HDa.out
    have hDB := HDb.out
    have hszA := HBa.out.size
    have hBaz := HBb.out.trans (hBz.mono HBb.out.size)
    have hXb : X.heap[Db]? = some (.deferred (some [])) := by
      rw [hX, Below.heap_setCell _ _ _ _ (by show Db ≠ w.heap.size; omega)]
      exact (hBz.block _ (Array.getElem?_eq_some_iff.1 HMb.out).1).trans HMb.out
    have hXa : X.heap[Da]? = some (.deferred (some [])) := by
      rw [hX, Below.heap_setCell _ _ _ _ (by show Da ≠ w.heap.size; omega)]
      exact (hBaz.block _ (Array.getElem?_eq_some_iff.1 HMa.out).1).trans HMa.out
    have hXa2 : (X.putObj Db (.deferred none)).heap[Da]? = some (.deferred (some [])) := by
      rw [(grownBy_putObj' X Db (.deferred none)).block Da (Array.getElem?_eq_some_iff.1 hXa).1 (by simp; omega)]
      exact hXa
    have hXc : X.cell? ⟨w.heap.size, 0, none⟩ = some (.bool true) := by rw [hX]; exact World.cell?_setCell_same _ _ _ hcz
    have hXB : Below w.heap.size w X := by
      rw [hX]
      exact (HBA.out.trans ((hBab.trans (hBz.mono hBab.size)).mono HBA.out.size)).setCell (p := ⟨w.heap.size, 0, none⟩) (Nat.le_refl _) _
    clear hX
    refine ⟨by simp, .inl ⟨_, _, rfl, run_takeDeferred hXb, ?_⟩⟩
    refine ⟨by simp, .inl ⟨_, _, rfl, run_takeDeferred hXa2, ?_⟩⟩
    have hYB : Below w.heap.size w ((X.putObj Db (.deferred none)).putObj Da (.deferred none)) := (hXB.grown (grownBy_putObj' X Db (.deferred none)) hXB.size (fun k e => by cases e; omega)).grown (grownBy_putObj' _ Da (.deferred none)) (by have := hXB.size; simpa using this) (fun k e => by cases e; omega)
    have hYc : ((X.putObj Db (.deferred none)).putObj Da (.deferred none)).cell? ⟨w.heap.size, 0, none⟩ = some (.bool true) :=
      cell_kept (cell_kept hXc (grownBy_putObj' X Db (.deferred none)) (fun r e => by cases e; exact ⟨_, hXb, rfl⟩)) (grownBy_putObj' _ Da (.deferred none)) (fun r e => by cases e; exact ⟨_, hXa2, rfl⟩)
    generalize (X.putObj Db (.deferred none)).putObj Da (.deferred none) = Y at *
    exact ⟨.bool true, by simp [results, Try.results6, go_sem, hYc], rfl, hYB⟩
  · have hn : ¬ inR n := by unfold inR; omega
    rw [if_neg hn] at HPUT
    clear hn
    have qa1 : Calls Try.prog 15 #[.pointer none, .int .i64 n] wA fun e w' => e = .returned (.tuple #[.string ⟨#[]⟩, .bool false]) ∧ Below wA.heap.size wA w' := by
      have := get_c HT1.out n
      rw [nil_getV] at this
      exact this
    rw [roundsIn_succ]
    gi_wp2_with (first
      | ((try refine ⟨hdd _, ?_⟩); gi_at_call 15; refine (callsIn_wide.2 qa1).mono ?_; clear qa1; rintro e wa1 ⟨rfl, hB1⟩; have q2 := all_any (TrAt.keep HT1.out hB1))
      | ((try refine ⟨hdd _, ?_⟩); gi_at_call 25; refine (callsIn_wide.2 q2).mono ?_; clear q2; rintro e wa2 ⟨rfl, hw2⟩; have hB2' : Below wa1.heap.size wa1 wa2 := (by rw [hw2]; exact balloc (Below.refl _ _) _); have hB2 := hB1.trans (hB2'.mono hB1.size); have hbx : wa2.heap[wa1.heap.size]? = some (.cells #[.pointer none] 51) := (by rw [hw2]; exact heap_alloc_last _ _); have HT2 := hid_mk (TrAt.keep HT1.out hB2); have HBX := hid_mk hbx; clear hw2 hB2' hbx; have q3 := len_any HT2.out; have q4 := nodes_any HT2.out; have q5 := drop_none HT2.out n (getV_none HT2.out.wf (nil_getV n)))
      | ((try refine ⟨hdd _, ?_⟩); gi_at_call 26; refine (callsIn_wide.2 q3).mono ?_; clear q3; rintro e wa3 ⟨rfl, rfl⟩; rw [show ((szT T.nil : Nat) : Int) = 0 from rfl])
      | ((try refine ⟨hdd _, ?_⟩); gi_at_call 27; refine (callsIn_wide.2 q4).mono ?_; clear q4; rintro e wa3 ⟨rfl, rfl⟩; rw [show ((cntT T.nil : Nat) : Int) = 0 from rfl])
      | ((try refine ⟨hdd _, ?_⟩); gi_at_call 11; refine (callsIn_wide.2 q5).mono ?_; clear q5; rintro e wa4 ⟨rfl, hB4⟩))
    have hB5 := hB2.trans (hB4.mono hB2.size)
    have HBX5 := hid_mk ((hB4.block _ (Array.getElem?_eq_some_iff.1 HBX.out).1).trans HBX.out)
    clear HBX HT2 hB1 hB2 hB4
    refine range_none rfl rfl HBX5.out ?_
    rintro Da Wa hD hBW hK
    have hBW5 := hB5.trans (hBW.mono hB5.size)
    have HTW := hid_mk (TrAt.keep HT1.out hBW5)
    have HKa := hid_mk hK
    have HDa := hid_mk (Nat.le_trans hB5.size hD)
    clear hK hD hBW hB5 HBX5
    have q6 := HPUT.out _ Wa HTW.out
    gi_wp2_with (first
      | ((try refine ⟨hdd _, ?_⟩); gi_at_call 13; refine (callsIn_wide.2 q6).mono ?_; clear q6; rintro e wa6 ⟨tp6, t6, rfl, hT6, hg6, hB6⟩; have q7 := get_c hT6 n; rw [hg6] at q7; have hB7 := hBW5.trans (hB6.mono hBW5.size); obtain ⟨x6, rfl⟩ := hT6.ptr; clear hT6 hg6)
      | ((try refine ⟨hdd _, ?_⟩); gi_at_call 15; refine (callsIn_wide.2 q7).mono ?_; clear q7; rintro e wa7 ⟨rfl, hB8⟩))
    have HBa := hid_mk (hB7.trans (hB8.mono hB7.size))
    have HMa := hid_mk (((hB6.trans (hB8.mono hB6.size)).block _ (Array.getElem?_eq_some_iff.1 HKa.out).1).trans HKa.out)
    clear hB7 hB8 hB6 hBW5 HTW
    have HT2B := hid_mk (TrAt.keep HT2A.out HBa.out)
    have qb1 : Calls Try.prog 15 #[.pointer (some ⟨w.heap.size + 1, 0, none⟩), .int .i64 n] wa7 fun e w' => e = .returned (.tuple #[.string ⟨#[]⟩, .bool false]) ∧ Below wa7.heap.size wa7 w' := by
      have := get_c HT2B.out n
      rw [nil_getV] at this
      exact this
    rw [roundsIn_succ]
    gi_wp2_with (first
      | ((try refine ⟨hdd _, ?_⟩); gi_at_call 15; refine (callsIn_wide.2 qb1).mono ?_; clear qb1; rintro e wb1 ⟨rfl, hB1⟩; have q2 := all_any (TrAt.keep HT2B.out hB1))
      | ((try refine ⟨hdd _, ?_⟩); gi_at_call 25; refine (callsIn_wide.2 q2).mono ?_; clear q2; rintro e wb2 ⟨rfl, hw2⟩; have hB2' : Below wb1.heap.size wb1 wb2 := (by rw [hw2]; exact balloc (Below.refl _ _) _); have hB2 := hB1.trans (hB2'.mono hB1.size); have hbx : wb2.heap[wb1.heap.size]? = some (.cells #[.pointer none] 51) := (by rw [hw2]; exact heap_alloc_last _ _); have HT2 := hid_mk (TrAt.keep HT2B.out hB2); have HBX := hid_mk hbx; clear hw2 hB2' hbx; have q3 := len_any HT2.out; have q4 := nodes_any HT2.out; have q5 := drop_none HT2.out n (getV_none HT2.out.wf (nil_getV n)))
      | ((try refine ⟨hdd _, ?_⟩); gi_at_call 26; refine (callsIn_wide.2 q3).mono ?_; clear q3; rintro e wb3 ⟨rfl, rfl⟩; rw [show ((szT T.nil : Nat) : Int) = 0 from rfl])
      | ((try refine ⟨hdd _, ?_⟩); gi_at_call 27; refine (callsIn_wide.2 q4).mono ?_; clear q4; rintro e wb3 ⟨rfl, rfl⟩; rw [show ((cntT T.nil : Nat) : Int) = 0 from rfl])
      | ((try refine ⟨hdd _, ?_⟩); gi_at_call 11; refine (callsIn_wide.2 q5).mono ?_; clear q5; rintro e wb4 ⟨rfl, hB4⟩))
    have hB5 := hB2.trans (hB4.mono hB2.size)
    have HBX5 := hid_mk ((hB4.block _ (Array.getElem?_eq_some_iff.1 HBX.out).1).trans HBX.out)
    clear HBX HT2 hB1 hB2 hB4
    refine range_none rfl rfl HBX5.out ?_
    rintro Db Wb hD hBW hK
    have hBW5 := hB5.trans (hBW.mono hB5.size)
    have HTW := hid_mk (TrAt.keep HT2B.out hBW5)
    have HKb := hid_mk hK
    have HDb := hid_mk (Nat.le_trans hB5.size hD)
    clear hK hD hBW hB5 HBX5
    have q6 := HPUT.out _ Wb HTW.out
    gi_wp2_with (first
      | ((try refine ⟨hdd _, ?_⟩); gi_at_call 13; refine (callsIn_wide.2 q6).mono ?_; clear q6; rintro e wb6 ⟨tp6, t6, rfl, hT6, hg6, hB6⟩; have q7 := get_c hT6 n; rw [hg6] at q7; have hB7 := hBW5.trans (hB6.mono hBW5.size); obtain ⟨x6, rfl⟩ := hT6.ptr; clear hT6 hg6)
      | ((try refine ⟨hdd _, ?_⟩); gi_at_call 15; refine (callsIn_wide.2 q7).mono ?_; clear q7; rintro e wb7 ⟨rfl, hB8⟩))
    have HBb := hid_mk (hB7.trans (hB8.mono hB7.size))
    have HMb := hid_mk (((hB6.trans (hB8.mono hB6.size)).block _ (Array.getElem?_eq_some_iff.1 HKb.out).1).trans HKb.out)
    clear hB7 hB8 hB6 hBW5 HTW
    rw [roundsIn_succ]
    have hlv := fun w' => lives_any w'
    have hBab := HBa.out.trans (HBb.out.mono HBa.out.size)
    have hrc : wb7.heap[w.heap.size]? = some (.cells #[.bool false] 4) := (hBab.block _ (Array.getElem?_eq_some_iff.1 HRA.out).1).trans HRA.out
    gi_wp2_with ((try refine ⟨hdd _, ?_⟩); gi_at_call 9; refine (callsIn_wide.2 (hlv _)).mono ?_; rintro e wz ⟨rfl, hBz⟩; have hrz := (hBz.block _ (Array.getElem?_eq_some_iff.1 hrc).1).trans hrc; have hcz : wz.cell? ⟨w.heap.size, 0, none⟩ = some (.bool false) := (by rw [cell_of_row _ _ _ _ _ _ hrz]; rfl); have hfz : wz.frozen? ⟨w.heap.size, 0, none⟩ = false := (by simp [World.frozen?, hrz]))
    obtain ⟨X, hX⟩ : ∃ X, X = wz.setCell ⟨w.heap.size, 0, none⟩ (.bool true) := ⟨_, rfl⟩
    rw [← hX]
    have hDa := (Array.getElem?_eq_some_iff.1 HMa.out).1
    have hWA : w.heap.size < wA.heap.size := (Array.getElem?_eq_some_iff.1 HRA.out).1
    have hDA := HDa.out
    have hDB := HDb.out
    have hszA := HBa.out.size
    have hBaz := HBb.out.trans (hBz.mono HBb.out.size)
    have hXb : X.heap[Db]? = some (.deferred (some [])) := by
      rw [hX, Below.heap_setCell _ _ _ _ (by show Db ≠ w.heap.size; omega)]
      exact (hBz.block _ (Array.getElem?_eq_some_iff.1 HMb.out).1).trans HMb.out
    have hXa : X.heap[Da]? = some (.deferred (some [])) := by
      rw [hX, Below.heap_setCell _ _ _ _ (by show Da ≠ w.heap.size; omega)]
      exact (hBaz.block _ (Array.getElem?_eq_some_iff.1 HMa.out).1).trans HMa.out
    have hXa2 : (X.putObj Db (.deferred none)).heap[Da]? = some (.deferred (some [])) := by
      rw [(grownBy_putObj' X Db (.deferred none)).block Da (Array.getElem?_eq_some_iff.1 hXa).1 (by simp; omega)]
      exact hXa
    have hXc : X.cell? ⟨w.heap.size, 0, none⟩ = some (.bool true) := by rw [hX]; exact World.cell?_setCell_same _ _ _ hcz
    have hXB : Below w.heap.size w X := by
      rw [hX]
      exact (HBA.out.trans ((hBab.trans (hBz.mono hBab.size)).mono HBA.out.size)).setCell (p := ⟨w.heap.size, 0, none⟩) (Nat.le_refl _) _
    clear hX
    refine ⟨by simp, .inl ⟨_, _, rfl, run_takeDeferred hXb, ?_⟩⟩
    refine ⟨by simp, .inl ⟨_, _, rfl, run_takeDeferred hXa2, ?_⟩⟩
    have hYB : Below w.heap.size w ((X.putObj Db (.deferred none)).putObj Da (.deferred none)) := (hXB.grown (grownBy_putObj' X Db (.deferred none)) hXB.size (fun k e => by cases e; omega)).grown (grownBy_putObj' _ Da (.deferred none)) (by have := hXB.size; simpa using this) (fun k e => by cases e; omega)
    have hYc : ((X.putObj Db (.deferred none)).putObj Da (.deferred none)).cell? ⟨w.heap.size, 0, none⟩ = some (.bool true) :=
      cell_kept (cell_kept hXc (grownBy_putObj' X Db (.deferred none)) (fun r e => by cases e; exact ⟨_, hXb, rfl⟩)) (grownBy_putObj' _ Da (.deferred none)) (fun r e => by cases e; exact ⟨_, hXa2, rfl⟩)
    generalize (X.putObj Db (.deferred none)).putObj Da (.deferred none) = Y at *
    exact ⟨.bool true, by simp [results, Try.results6, go_sem, hYc], rfl, hYB⟩
  · have hn : ¬ inR n := by unfold inR; omega
    rw [if_neg hn] at HPUT
    clear hn
    have qa1 : Calls Try.prog 15 #[.pointer none, .int .i64 n] wA fun e w' => e = .returned (.tuple #[.string ⟨#[]⟩, .bool false]) ∧ Below wA.heap.size wA w' := by
      have := get_c HT1.out n
      rw [nil_getV] at this
      exact this
    rw [roundsIn_succ]
    gi_wp2_with (first
      | ((try refine ⟨hdd _, ?_⟩); gi_at_call 15; refine (callsIn_wide.2 qa1).mono ?_; clear qa1; rintro e wa1 ⟨rfl, hB1⟩; have q2 := all_any (TrAt.keep HT1.out hB1))
      | ((try refine ⟨hdd _, ?_⟩); gi_at_call 25; refine (callsIn_wide.2 q2).mono ?_; clear q2; rintro e wa2 ⟨rfl, hw2⟩; have hB2' : Below wa1.heap.size wa1 wa2 := (by rw [hw2]; exact balloc (Below.refl _ _) _); have hB2 := hB1.trans (hB2'.mono hB1.size); have hbx : wa2.heap[wa1.heap.size]? = some (.cells #[.pointer none] 51) := (by rw [hw2]; exact heap_alloc_last _ _); have HT2 := hid_mk (TrAt.keep HT1.out hB2); have HBX := hid_mk hbx; clear hw2 hB2' hbx; have q3 := len_any HT2.out; have q4 := nodes_any HT2.out; have q5 := drop_none HT2.out n (getV_none HT2.out.wf (nil_getV n)))
      | ((try refine ⟨hdd _, ?_⟩); gi_at_call 26; refine (callsIn_wide.2 q3).mono ?_; clear q3; rintro e wa3 ⟨rfl, rfl⟩; rw [show ((szT T.nil : Nat) : Int) = 0 from rfl])
      | ((try refine ⟨hdd _, ?_⟩); gi_at_call 27; refine (callsIn_wide.2 q4).mono ?_; clear q4; rintro e wa3 ⟨rfl, rfl⟩; rw [show ((cntT T.nil : Nat) : Int) = 0 from rfl])
      | ((try refine ⟨hdd _, ?_⟩); gi_at_call 11; refine (callsIn_wide.2 q5).mono ?_; clear q5; rintro e wa4 ⟨rfl, hB4⟩))
    have hB5 := hB2.trans (hB4.mono hB2.size)
    have HBX5 := hid_mk ((hB4.block _ (Array.getElem?_eq_some_iff.1 HBX.out).1).trans HBX.out)
    clear HBX HT2 hB1 hB2 hB4
    refine range_none rfl rfl HBX5.out ?_
    rintro Da Wa hD hBW hK
    have hBW5 := hB5.trans (hBW.mono hB5.size)
    have HTW := hid_mk (TrAt.keep HT1.out hBW5)
    have HKa := hid_mk hK
    have HDa := hid_mk (Nat.le_trans hB5.size hD)
    clear hK hD hBW hB5 HBX5
    have q6 := HPUT.out _ Wa HTW.out
    gi_wp2_with (first
      | ((try refine ⟨hdd _, ?_⟩); gi_at_call 13; refine (callsIn_wide.2 q6).mono ?_; clear q6; rintro e wa6 ⟨tp6, t6, rfl, hT6, hg6, hB6⟩; have q7 := get_c hT6 n; rw [hg6] at q7; have hB7 := hBW5.trans (hB6.mono hBW5.size); obtain ⟨x6, rfl⟩ := hT6.ptr; clear hT6 hg6)
      | ((try refine ⟨hdd _, ?_⟩); gi_at_call 15; refine (callsIn_wide.2 q7).mono ?_; clear q7; rintro e wa7 ⟨rfl, hB8⟩))
    have HBa := hid_mk (hB7.trans (hB8.mono hB7.size))
    have HMa := hid_mk (((hB6.trans (hB8.mono hB6.size)).block _ (Array.getElem?_eq_some_iff.1 HKa.out).1).trans HKa.out)
    clear hB7 hB8 hB6 hBW5 HTW
    have HT2B := hid_mk (TrAt.keep HT2A.out HBa.out)
    have qb1 : Calls Try.prog 15 #[.pointer (some ⟨w.heap.size + 1, 0, none⟩), .int .i64 n] wa7 fun e w' => e = .returned (.tuple #[.string ⟨#[]⟩, .bool false]) ∧ Below wa7.heap.size wa7 w' := by
      have := get_c HT2B.out n
      rw [nil_getV] at this
      exact this
    rw [roundsIn_succ]
    gi_wp2_with (first
      | ((try refine ⟨hdd _, ?_⟩); gi_at_call 15; refine (callsIn_wide.2 qb1).mono ?_; clear qb1; rintro e wb1 ⟨rfl, hB1⟩; have q2 := all_any (TrAt.keep HT2B.out hB1))
      | ((try refine ⟨hdd _, ?_⟩); gi_at_call 25; refine (callsIn_wide.2 q2).mono ?_; clear q2; rintro e wb2 ⟨rfl, hw2⟩; have hB2' : Below wb1.heap.size wb1 wb2 := (by rw [hw2]; exact balloc (Below.refl _ _) _); have hB2 := hB1.trans (hB2'.mono hB1.size); have hbx : wb2.heap[wb1.heap.size]? = some (.cells #[.pointer none] 51) := (by rw [hw2]; exact heap_alloc_last _ _); have HT2 := hid_mk (TrAt.keep HT2B.out hB2); have HBX := hid_mk hbx; clear hw2 hB2' hbx; have q3 := len_any HT2.out; have q4 := nodes_any HT2.out; have q5 := drop_none HT2.out n (getV_none HT2.out.wf (nil_getV n)))
      | ((try refine ⟨hdd _, ?_⟩); gi_at_call 26; refine (callsIn_wide.2 q3).mono ?_; clear q3; rintro e wb3 ⟨rfl, rfl⟩; rw [show ((szT T.nil : Nat) : Int) = 0 from rfl])
      | ((try refine ⟨hdd _, ?_⟩); gi_at_call 27; refine (callsIn_wide.2 q4).mono ?_; clear q4; rintro e wb3 ⟨rfl, rfl⟩; rw [show ((cntT T.nil : Nat) : Int) = 0 from rfl])
      | ((try refine ⟨hdd _, ?_⟩); gi_at_call 11; refine (callsIn_wide.2 q5).mono ?_; clear q5; rintro e wb4 ⟨rfl, hB4⟩))
    have hB5 := hB2.trans (hB4.mono hB2.size)
    have HBX5 := hid_mk ((hB4.block _ (Array.getElem?_eq_some_iff.1 HBX.out).1).trans HBX.out)
    clear HBX HT2 hB1 hB2 hB4
    refine range_none rfl rfl HBX5.out ?_
    rintro Db Wb hD hBW hK
    have hBW5 := hB5.trans (hBW.mono hB5.size)
    have HTW := hid_mk (TrAt.keep HT2B.out hBW5)
    have HKb := hid_mk hK
    have HDb := hid_mk (Nat.le_trans hB5.size hD)
    clear hK hD hBW hB5 HBX5
    have q6 := HPUT.out _ Wb HTW.out
    gi_wp2_with (first
      | ((try refine ⟨hdd _, ?_⟩); gi_at_call 13; refine (callsIn_wide.2 q6).mono ?_; clear q6; rintro e wb6 ⟨tp6, t6, rfl, hT6, hg6, hB6⟩; have q7 := get_c hT6 n; rw [hg6] at q7; have hB7 := hBW5.trans (hB6.mono hBW5.size); obtain ⟨x6, rfl⟩ := hT6.ptr; clear hT6 hg6)
      | ((try refine ⟨hdd _, ?_⟩); gi_at_call 15; refine (callsIn_wide.2 q7).mono ?_; clear q7; rintro e wb7 ⟨rfl, hB8⟩))
    have HBb := hid_mk (hB7.trans (hB8.mono hB7.size))
    have HMb := hid_mk (((hB6.trans (hB8.mono hB6.size)).block _ (Array.getElem?_eq_some_iff.1 HKb.out).1).trans HKb.out)
    clear hB7 hB8 hB6 hBW5 HTW
    rw [roundsIn_succ]
    have hlv := fun w' => lives_any w'
    have hBab := HBa.out.trans (HBb.out.mono HBa.out.size)
    have hrc : wb7.heap[w.heap.size]? = some (.cells #[.bool false] 4) := (hBab.block _ (Array.getElem?_eq_some_iff.1 HRA.out).1).trans HRA.out
    gi_wp2_with ((try refine ⟨hdd _, ?_⟩); gi_at_call 9; refine (callsIn_wide.2 (hlv _)).mono ?_; rintro e wz ⟨rfl, hBz⟩; have hrz := (hBz.block _ (Array.getElem?_eq_some_iff.1 hrc).1).trans hrc; have hcz : wz.cell? ⟨w.heap.size, 0, none⟩ = some (.bool false) := (by rw [cell_of_row _ _ _ _ _ _ hrz]; rfl); have hfz : wz.frozen? ⟨w.heap.size, 0, none⟩ = false := (by simp [World.frozen?, hrz]))
    obtain ⟨X, hX⟩ : ∃ X, X = wz.setCell ⟨w.heap.size, 0, none⟩ (.bool true) := ⟨_, rfl⟩
    rw [← hX]
    have hDa := (Array.getElem?_eq_some_iff.1 HMa.out).1
    have hWA : w.heap.size < wA.heap.size := (Array.getElem?_eq_some_iff.1 HRA.out).1
    have hDA := HDa.out
    have hDB := HDb.out
    have hszA := HBa.out.size
    have hBaz := HBb.out.trans (hBz.mono HBb.out.size)
    have hXb : X.heap[Db]? = some (.deferred (some [])) := by
      rw [hX, Below.heap_setCell _ _ _ _ (by show Db ≠ w.heap.size; omega)]
      exact (hBz.block _ (Array.getElem?_eq_some_iff.1 HMb.out).1).trans HMb.out
    have hXa : X.heap[Da]? = some (.deferred (some [])) := by
      rw [hX, Below.heap_setCell _ _ _ _ (by show Da ≠ w.heap.size; omega)]
      exact (hBaz.block _ (Array.getElem?_eq_some_iff.1 HMa.out).1).trans HMa.out
    have hXa2 : (X.putObj Db (.deferred none)).heap[Da]? = some (.deferred (some [])) := by
      rw [(grownBy_putObj' X Db (.deferred none)).block Da (Array.getElem?_eq_some_iff.1 hXa).1 (by simp; omega)]
      exact hXa
    have hXc : X.cell? ⟨w.heap.size, 0, none⟩ = some (.bool true) := by rw [hX]; exact World.cell?_setCell_same _ _ _ hcz
    have hXB : Below w.heap.size w X := by
      rw [hX]
      exact (HBA.out.trans ((hBab.trans (hBz.mono hBab.size)).mono HBA.out.size)).setCell (p := ⟨w.heap.size, 0, none⟩) (Nat.le_refl _) _
    clear hX
    refine ⟨by simp, .inl ⟨_, _, rfl, run_takeDeferred hXb, ?_⟩⟩
    refine ⟨by simp, .inl ⟨_, _, rfl, run_takeDeferred hXa2, ?_⟩⟩
    have hYB : Below w.heap.size w ((X.putObj Db (.deferred none)).putObj Da (.deferred none)) := (hXB.grown (grownBy_putObj' X Db (.deferred none)) hXB.size (fun k e => by cases e; omega)).grown (grownBy_putObj' _ Da (.deferred none)) (by have := hXB.size; simpa using this) (fun k e => by cases e; omega)
    have hYc : ((X.putObj Db (.deferred none)).putObj Da (.deferred none)).cell? ⟨w.heap.size, 0, none⟩ = some (.bool true) :=
      cell_kept (cell_kept hXc (grownBy_putObj' X Db (.deferred none)) (fun r e => by cases e; exact ⟨_, hXb, rfl⟩)) (grownBy_putObj' _ Da (.deferred none)) (fun r e => by cases e; exact ⟨_, hXa2, rfl⟩)
    generalize (X.putObj Db (.deferred none)).putObj Da (.deferred none) = Y at *
    exact ⟨.bool true, by simp [results, Try.results6, go_sem, hYc], rfl, hYB⟩

end Go.Proofs.Ytnmpakjklbamiaa
