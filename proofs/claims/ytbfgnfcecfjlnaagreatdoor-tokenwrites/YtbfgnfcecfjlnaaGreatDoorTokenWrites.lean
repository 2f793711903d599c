/- Whatever the text and the token: TokenWrites answers true, and both read as they did; the listed tables of math/bits and strconv are tied to the program's text. -/
import Derived.Test.YtbfgnfcecfjlnaaGreatDoorWritesWalk
import Derived.Test.YtbfgnfcecfjlnaaGreatDoorCards
import Derived.Test.YtbfgnfcecfjlnaaGreatDoorTie
import Derived.ProofKit
import Derived.ShutString
import Derived.ChangeOld
import Derived.SizedLaws
import Derived.LaidMore
import Derived.OpenShut
import Derived.Stop.Joined
import Derived.SevenTiedAt
namespace Go.Proofs.YtbfgnfcecfjlnaaGreatDoor
open Go.ChangeShapes Go.WideShapes Go.ChangeAt Go.WideMaps Go.WideElems Go.RowKit
open Go.ChangeMaps (open_string shut_string)

def laid3 : List (String × DataW Unit) := [("math/bits.deBruijn32tab", Rows.laid_math_bits_deBruijn32tab), ("math/bits.deBruijn64tab", Rows.laid_math_bits_deBruijn64tab), ("internal/strconv.uint64pow10", Rows.laid_internal_strconv_uint64pow10)]
theorem laidOut : laidOutB Tryz.prog = true := by kernel_rfl
theorem own : ownKnob Tryz.prog.godebug = none := by kernel_rfl
theorem g64 : Tryz.prog.globalNamed "math/bits.deBruijn64tab" = some 3 := by kernel_rfl
theorem t64 : (Tryz.prog.globals[3]?).map (·.type) = some 111 := by kernel_rfl
set_option maxRecDepth 100000 in
theorem door_met (os : Os) (args : Array Value) : laidMetH Tryz.prog laid3 ((World.doorLaid Tryz.prog 400 os).forCall (fun _ _ => 0) ⟨#[], args, []⟩).memory :=
  laidMetH_of_parts3 (fuel := 8) (laidMet_of_run' 8 (by kernel_rfl) (by kernel_rfl)) (by kernel_rfl) (by kernel_rfl)
set_option maxRecDepth 100000 in
theorem of_laid {W : World} (h : laidMetH Tryz.prog laid3 W) : Tab W := by
  rw [MakeChecks.laidMetH_plain _ _ _ (by kernel_rfl)] at h
  obtain ⟨ps, ⟨g0, t0, cs0, f0, p0, q0, hg0, ht0, hv0, hd0, ⟨g1, t1, cs1, f1, p1, q1, hg1, ht1, hv1, hd1, _, _⟩, _⟩, _, _⟩ := h
  obtain rfl := Option.some.inj (g64.symm.trans hg1)
  obtain rfl := Option.some.inj (t64.symm.trans ht1)
  obtain ⟨xs, m1, rfl, hx1, hlen, hn64, hel⟩ := DataW.trod_array Tryz.underlying111 hd1
  have h15 := hel 15 (by decide)
  have hm : Rows.laid_math_bits_deBruijn64tab = DataW.agg (List.map (fun x => x.fst) xs) := congrArg Prod.fst hx1
  have hl : (xs.map fun x => x.fst)[15]? = some (DataW.lit (.int .u8 4)) := by
    have : ∀ l : List (DataW Unit), Rows.laid_math_bits_deBruijn64tab = DataW.agg l → l[15]? = some (DataW.lit (.int .u8 4)) := by
      intro l hl
      unfold Rows.laid_math_bits_deBruijn64tab at hl
      cases hl
      rfl
    exact this _ hm
  rw [List.getElem?_map, Option.map_eq_some_iff] at hl
  obtain ⟨y, hy, hy1⟩ := hl
  rw [hy, Tryz.cells5] at h15
  obtain ⟨k, e1, e2, _⟩ := DataW.trod_int Tryz.underlying5 h15
  have hk : k = 4 := by
    rw [e2] at hy1
    simpa using hy1
  subst hk
  have hc := World.var?_cell hg1 hv1 15
  have hcs : cs1[15]? = some (.int .u8 4) := by
    have h2 := congrArg (fun l => l[0]?) e1
    simp only [List.getElem?_take, List.getElem?_drop] at h2
    simpa using h2
  unfold Tab
  rw [hc]
  exact hcs


set_option maxRecDepth 100000 in
theorem open_tok {H : Type} {enc : TypeId × Value → H} {W : World} {base : Nat} {v : Value} {d : DataW H} {ps : List MemPlace} (hval : Value.okWide Tryz.prog W .any base 31 v) (hd : DataW.Trod enc Tryz.prog W 0 (fun _ => true) true 31 v d ps) :
    ∃ (k : Int) (tx un : ByteArray) (wh fl : Bool), v = .agg #[.int .i64 k, .string tx, .string un, .bool wh, .bool fl] ∧ d = .agg [.lit (.int .i64 k), .lit (.string tx.data.toList), .lit (.string un.data.toList), .lit (.bool wh), .lit (.bool fl)] := by
  obtain ⟨cs, rfl, hcs⟩ := okWide_struct Tryz.underlying31 hval
  obtain ⟨fuel, hf⟩ := hd
  obtain ⟨xs, n, rfl, hx, hl, hxl, hel⟩ := DataW.trod_struct Tryz.underlying31 hf
  have h0 := hel 0 _ rfl
  have h1 := hel 1 _ rfl
  have h2 := hel 2 _ rfl
  have h3 := hel 3 _ rfl
  have h4 := hel 4 _ rfl
  have hc3 : Tryz.prog.cellsOf 3 = 1 := by kernel_rfl
  have hc9 : Tryz.prog.cellsOf 9 = 1 := by kernel_rfl
  have hc4 : Tryz.prog.cellsOf 4 = 1 := by kernel_rfl
  have hc31 : Tryz.prog.cellsOf 31 = 5 := by kernel_rfl
  rw [hc31] at hcs
  have hxl5 : xs.length = 5 := hxl
  obtain ⟨x0, x1, x2, x3, x4, rfl⟩ : ∃ x0 x1 x2 x3 x4, xs = [x0, x1, x2, x3, x4] := by
    match xs, hxl5 with
    | [a, b, c, d, e], _ => exact ⟨a, b, c, d, e, rfl⟩
  obtain ⟨y0, y1, y2, y3, y4, rfl⟩ : ∃ y0 y1 y2 y3 y4, cs = #[y0, y1, y2, y3, y4] := by
    obtain ⟨l⟩ := cs
    have : l.length = 5 := by simpa using hcs
    match l, this with
    | [a, b, c, d, e], _ => exact ⟨a, b, c, d, e, rfl⟩
  obtain ⟨k, a0, b0, _⟩ := DataW.trod_int Tryz.underlying3 h0
  obtain ⟨tx, a1, b1, _⟩ := DataW.trod_string Tryz.underlying9 h1
  obtain ⟨un, a2, b2, _⟩ := DataW.trod_string Tryz.underlying9 h2
  obtain ⟨wh, a3, b3⟩ := DataW.trod_bool Tryz.underlying4 h3
  obtain ⟨fl, a4, b4⟩ := DataW.trod_bool Tryz.underlying4 h4
  have e0 : y0 = .int .i64 k := by
    have h : [y0] = [Value.int .i64 k] := by rw [← a0]; show _ = List.take (Tryz.prog.cellsOf 3) _; rw [hc3]; rfl
    exact List.head_eq_of_cons_eq h
  have e1 : y1 = .string tx := by
    have h : [y1] = [Value.string tx] := by rw [← a1]; show _ = List.take (Tryz.prog.cellsOf 9) _; rw [hc9]; rfl
    exact List.head_eq_of_cons_eq h
  have e2 : y2 = .string un := by
    have h : [y2] = [Value.string un] := by rw [← a2]; show _ = List.take (Tryz.prog.cellsOf 9) _; rw [hc9]; rfl
    exact List.head_eq_of_cons_eq h
  have e3 : y3 = .bool wh := by
    have h : [y3] = [Value.bool wh] := by rw [← a3]; show _ = List.take (Tryz.prog.cellsOf 4) _; rw [hc4]; rfl
    exact List.head_eq_of_cons_eq h
  have e4 : y4 = .bool fl := by
    have h : [y4] = [Value.bool fl] := by rw [← a4]; show _ = List.take (Tryz.prog.cellsOf 4) _; rw [hc4]; rfl
    exact List.head_eq_of_cons_eq h
  clear a0 a1 a2 a3 a4
  subst e0 e1 e2 e3 e4
  refine ⟨k, tx, un, wh, fl, rfl, ?_⟩
  have hx1 : d = DataW.agg ([x0, x1, x2, x3, x4].map (·.1)) := congrArg Prod.fst hx
  rw [hx1, b0, b1, b2, b3, b4]
  rfl
theorem sized_tok {H : Type} {ts : List TypeId} {ds : List (DataW H)} {d0 : DataW H} {k : Int} {tx un : ByteArray} {wh fl : Bool}
    (h : (DataW.weightsEach Tryz.prog (9 :: 31 :: ts) (d0 :: .agg [.lit (.int .i64 k), .lit (.string tx.data.toList), .lit (.string un.data.toList), .lit (.bool wh), .lit (.bool fl)] :: ds)).all (· ≤ reachBytes) = true) : tx.size ≤ 140737488351232 ∧ un.size ≤ 140737488351232 := by
  have hr : reachBytes = 140737488351232 := rfl
  simp only [DataW.weightsEach, DataW.weights, Tryz.underlying31, List.all_append, Bool.and_eq_true, List.map, List.nil_append, List.all_cons, List.all_nil, hr, decide_eq_true_eq] at h
  have e1 : tx.data.toList.length = tx.size := rfl
  have e2 : un.data.toList.length = un.size := rfl
  omega

set_option maxRecDepth 100000 in
theorem lifted (os : Os) (started : os.Started) (H : Type) (enc : TypeId × Value → H) :
    ReturnsInHanded {} Tryz.checked os 4 .any (fun w args => (Rows.tokenWritesSpec.pre enc Tryz.prog Tryz.f4 [] false w args ∧ laidMetH Tryz.prog laid3 w) ∧ sizedMet enc Tryz.prog Tryz.f4 (OpenSpec.ofChange Rows.tokenWritesSpec) false w args)
      (Rows.tokenWritesSpec.post enc Tryz.prog Tryz.f4 false true false false) := by
  refine returnsInHanded_of_change_and (C := Tryz.checked) (X := fun w _ => laidMetH Tryz.prog laid3 w) (fun _ _ _ hh h => h.of_heap hh) own started (by kernel_rfl) Tryz.func4
    (ChangeSpec.witness_shaped (enc := enc) (C := Tryz.checked) (os := os) (X := fun w _ => laidMetH Tryz.prog laid3 w) false (World.doorLaid Tryz.prog 400 os) #[.string ByteArray.empty, .agg #[.int .i64 0, .string ByteArray.empty, .string ByteArray.empty, .bool false, .bool false]] 8 rfl (World.shaped_of_RefB (by kernel_rfl) (by kernel_rfl)) (by kernel_rfl) (by kernel_rfl) (by kernel_rfl) (door_met os _)) ?_
  intro W base args ds gs before hval0 hW _ hsz0 hL _
  have hsz : (DataW.weightsEach Tryz.prog (Tryz.f4.params.toList ++ Rows.tokenWritesSpec.plain.varTypes Tryz.prog) (ds ++ gs)).all (· ≤ reachBytes) = true := hsz0
  have hval : ∀ (j : Nat) t v, Tryz.f4.params[j]? = some t → args[j]? = some v → Value.okWide Tryz.prog W .any base t v := hval0
  have hW' := hW
  obtain ⟨p, q, hA0, hV, rfl, hfz, hnd⟩ := hW
  have hA : DataW.TrodAll enc Tryz.prog W 0 (fun _ => true) true Tryz.f4.params.toList args.toList ds p := hA0
  rw [Tryz.params4] at hA hval hsz
  obtain ⟨v0, vs0, d0, ds0, p0, q0, hargs, rfl, rfl, h0, r0⟩ := trodAll_cons hA
  obtain ⟨v1, vs1, d1, ds1, p1, q1, rfl, rfl, rfl, h1, r1⟩ := trodAll_cons r0
  obtain ⟨rfl, rfl, rfl⟩ := trodAll_nil r1
  obtain rfl : args = #[v0, v1] := by cases args; simp_all
  obtain ⟨rfl, rfl⟩ := trodVars_none hV
  obtain ⟨a0, rfl, rfl, rfl, w0⟩ := open_string Tryz.underlying9 (hval 0 9 v0 rfl rfl) h0
  have k1 := h1
  have lt1 : ∀ x ∈ p1, x.block < W.heap.size := by obtain ⟨m, hm⟩ := k1; exact DataW.trod_lt m _ _ _ hm
  obtain ⟨k, tx, un, wh, fl, rfl, rfl⟩ := open_tok (hval 1 31 v1 rfl rfl) h1
  have hT := of_laid hL
  have s0 : a0.size ≤ 140737488351232 := sized_string hsz (j := 0) (t := 9) rfl rfl
  have s1 := sized_tok hsz
  clear hA0 hval0 hsz hsz0
  refine (writes_walk W a0 tx un k wh fl s0 s1.1 s1.2 hT).mono fun e W' ⟨he, bel⟩ => ?_
  subst he
  exact ⟨_, rfl, _, _, _, [], _, [], hW', trodAll_mk1 (shut_bool Tryz.underlying4 _), (trodAll_cons_mk (shut_string Tryz.underlying9 w0) (trodAll_cons_mk (Below.trod laidOut (by kernel_rfl) (of_decide_eq_true (by kernel_rfl)) k1 bel lt1) trodAll_mk0)), rfl, bel.frame _, fun h => by cases h⟩

theorem tokenWrites_over : Rows.TokenWritesSaid :=
  OpenClaim.holds_of_wide 4 Tryz.f4 rfl rfl rfl rfl rfl rfl rfl ⟨rfl, rfl, rfl, rfl, rfl⟩ rfl rfl rfl rfl rfl (by kernel_rfl) Tryz.func4 (by kernel_rfl)
    (of_decide_eq_true (by kernel_rfl)) (by unfold Func.isWrapper; first | (rw [if_pos (by decide +kernel)]; kernel_rfl) | (rw [if_neg (by decide +kernel)]; exact ⟨rfl, rfl⟩))
    (fun os started H enc _ => lifted os started H enc)
theorem tokenWrites_card_holds : Rows.TokenWritesCardSaid :=
  Claim7.holds_tied_plain_at .later [] [.data, .data, .data] true (true, "f346e4aa1754bf9ca1e801c74741bd7e771e5821bc9d40292656d9bd9c05e7de") false
    tokenWrites_over (fun _ h => by cases h) (by kernel_rfl) (fun _ h => by cases h) tokenWrites_row_tie rfl ⟨rfl, rfl⟩ (by kernel_rfl) rfl
    (fun f fn hf hfn => by
      obtain rfl : f = 4 := Option.some.inj ((show Tryz.prog.funcNamed "gouache/gouachelaw02.TokenWrites" = some 4 by kernel_rfl).symm.trans hf) |>.symm
      obtain rfl : fn = Tryz.f4 := (Option.some.inj (Tryz.func4.symm.trans hfn)).symm
      exact ⟨by kernel_rfl, fun j t ht => by
        rw [Tryz.params4] at ht
        have hm : t ∈ [9, 31] := by
          have := Array.mem_of_getElem? ht
          simpa using this
        have hall : ([9, 31].all fun u => !Tryz.prog.wantsStandIn u) = true := by kernel_rfl
        exact (show Tryz.prog.wantsStandIn t = false by simpa using List.all_eq_true.1 hall t hm)⟩)
    (by kernel_rfl)
#print axioms tokenWrites_card_holds
end Go.Proofs.YtbfgnfcecfjlnaaGreatDoor
