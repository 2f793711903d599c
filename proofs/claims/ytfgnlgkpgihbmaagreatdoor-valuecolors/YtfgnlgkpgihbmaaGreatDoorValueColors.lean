/- Whatever the value and the number: ValueColors answers true, and they read as they did; the listed tables of value, strconv, math/bits and unicode/utf8 are tied to the program's text, one of them to a constant of the form. No other condition. -/
import Derived.Test.YtfgnlgkpgihbmaaGreatDoorZCx
import Derived.Test.YtfgnlgkpgihbmaaGreatDoorYOp
import Derived.Test.YtfgnlgkpgihbmaaGreatDoorZSg
import Derived.Test.YtfgnlgkpgihbmaaGreatDoorCards
import Derived.Test.YtfgnlgkpgihbmaaGreatDoorTie
import Derived.ProofKit
import Derived.ShutString
import Derived.ChangeOld
import Derived.SizedLaws
import Derived.LaidMore
import Derived.OpenShut
import Derived.Lay
import Derived.Stop.Joined
import Derived.SevenTiedAt
namespace Go.Proofs.YtfgnlgkpgihbmaaGreatDoor
open Go.ChangeShapes Go.WideShapes Go.ChangeAt Go.WideMaps Go.WideElems Go.RowKit
open Go.Proofs.YtfgnlgkpgihbmaaGreatDoor.Z (laid6 of_laid)
open Go.ChangeMaps (open_string shut_string)
set_option maxRecDepth 100000

theorem own : ownKnob Tryz.prog.godebug = none := by kernel_rfl
theorem laidOut : laidOutB Tryz.prog = true := by kernel_rfl
theorem sized_val {H : Type} {ts : List TypeId} {ds : List (DataW H)} {z : DataW H} {k : Int} {tx un : ByteArray} {wh fl : Bool}
    (h : (DataW.weightsEach Tryz.prog (32 :: ts) (.agg [.agg [.lit (.int .i64 k), .lit (.string tx.data.toList), .lit (.string un.data.toList), .lit (.bool wh), .lit (.bool fl)], z] :: ds)).all (· ≤ reachBytes) = true) : tx.size ≤ 140737488351232 ∧ un.size ≤ 140737488351232 := by
  have hr : reachBytes = 140737488351232 := rfl
  simp only [DataW.weightsEach, DataW.weights, Tryz.underlying32, Tryz.underlying30, List.all_append, Bool.and_eq_true, List.map, List.nil_append, List.all_cons, List.all_nil, hr, decide_eq_true_eq] at h
  have e1 : tx.data.toList.length = tx.size := rfl
  have e2 : un.data.toList.length = un.size := rfl
  omega
theorem lifted (os : Os) (started : os.Started) (H : Type) (enc : TypeId × Value → H) :
    ReturnsInHanded {} Tryz.checked os 7 .any (fun w args => (Rows.valueColorsSpec.pre enc Tryz.prog Tryz.f7 [] false w args ∧ laidMetH Tryz.prog laid6 w) ∧ sizedMet enc Tryz.prog Tryz.f7 (OpenSpec.ofChange Rows.valueColorsSpec) false w args)
      (Rows.valueColorsSpec.post enc Tryz.prog Tryz.f7 false true false false) := by
  refine returnsInHanded_of_calls own started (by kernel_rfl)
    (ChangeSpec.witness_shaped (enc := enc) (C := Tryz.checked) (os := os) (X := fun w _ => laidMetH Tryz.prog laid6 w) false (World.laidAll Tryz.prog os laid6) #[.agg #[.int .i64 0, .string ByteArray.empty, .string ByteArray.empty, .bool false, .bool false, .slice none 0 0], .int .u64 0] 8 (World.laidAll_os _ _ _)
      (World.shaped_of_ZipB (by kernel_rfl) (by kernel_rfl)) (by kernel_rfl) (by kernel_rfl) (by kernel_rfl)
      (by rw [MakeChecks.laidMetH_plain _ _ _ (by kernel_rfl)]; exact laidMet_laidAll _ (by kernel_rfl) (by kernel_rfl))) ?_
  intro w tape i _ hsh _ hok hpre hholds
  obtain ⟨_, _, _, fn, hfn, _, _, _, _, hval0⟩ := hok
  obtain rfl : fn = Tryz.f7 := Option.some.inj (hfn.symm.trans Tryz.func7)
  obtain ⟨⟨_, hx⟩, _, ds, gs, before, hw, hsz0⟩ := hpre
  have hW := DataW.Whole.of_heap (w' := w.forCall tape i) (by rfl) hw
  have hM := P.MC.of hsh
  have hL := hx.of_heap (w' := w.forCall tape i) (by rfl)
  obtain ⟨W, hWe⟩ : ∃ W, W = w.forCall tape i := ⟨_, rfl⟩
  obtain ⟨args, hAe⟩ : ∃ args, args = i.args := ⟨_, rfl⟩
  rw [← hWe, ← hAe] at hW
  rw [← hWe] at hM hL
  rw [← hWe, ← hAe] at hval0
  rw [← hWe, ← hAe]
  have hOk : Z.Ok W := ⟨(of_laid hL).1, (of_laid hL).2, hM⟩
  refine Calls.mono (R := fun e W' => ∃ v, e = .returned v ∧ Rows.valueColorsSpec.post enc Tryz.prog Tryz.f7 false true false false W args v W') ?_ fun e W' ⟨v, he, hp⟩ => ?_
  case refine_2 =>
    subst he
    exact ChangeSpec.post_blind hp
  have hval : ∀ (j : Nat) t v, Tryz.f7.params[j]? = some t → args[j]? = some v → Value.okWide Tryz.prog W .any w.heap.size t v := hval0
  have hW' := hW
  obtain ⟨p, q, hA0, hV, rfl, hfz, hnd⟩ := hW
  have hA : DataW.TrodAll enc Tryz.prog W 0 (fun _ => true) true Tryz.f7.params.toList args.toList ds p := hA0
  rw [Tryz.params7] at hA hval
  clear hWe hAe
  obtain ⟨v0, vs0, d0, ds0, p0, q0, hargs, rfl, rfl, h0, r0⟩ := trodAll_cons hA
  obtain ⟨v1, vs1, d1, ds1, p1, q1, rfl, rfl, rfl, h1, r1⟩ := trodAll_cons r0
  obtain ⟨rfl, rfl, rfl⟩ := trodAll_nil r1
  obtain rfl : args = #[v0, v1] := by cases args; simp_all
  obtain ⟨rfl, rfl⟩ := trodVars_none hV
  have k0 := h0
  have lt0 : ∀ x ∈ p0, x.block < W.heap.size := by obtain ⟨m, hm⟩ := k0; exact DataW.trod_lt m _ _ _ hm
  obtain ⟨cs, rfl, hcs⟩ := okWide_struct Tryz.underlying32 (hval 0 32 v0 rfl rfl)
  obtain ⟨fuel, hf⟩ := h0
  obtain ⟨t, kid, m, z, ecs, hm, hzk, hb1, hb2, hd⟩ := Y.bulk_val hf
  obtain ⟨ks, hks, hc1, hc2⟩ := Y.open_vals m kid z hzk
  obtain ⟨ka, kc, ek, _, _⟩ := hks.slice
  have hd : d0 = .agg [.agg [.lit (.int .i64 t.k), .lit (.string t.tx.data.toList), .lit (.string t.un.data.toList), .lit (.bool t.wh), .lit (.bool t.fl)], z.1] := hd
  have hsz : (DataW.weightsEach Tryz.prog (32 :: [41]) (d0 :: [d1])).all (· ≤ reachBytes) = true := hsz0
  rw [hd] at hsz
  obtain ⟨z1, z2⟩ := sized_val hsz
  obtain ⟨a1, rfl, rfl, rfl, w1⟩ := open_int Tryz.underlying41 (hval 1 41 v1 rfl rfl) h1
  obtain ⟨hlo, hhi⟩ := bounds_u64 w1
  subst ek
  have ev : (Value.agg cs) = Z.vA t (.slice ka ks.length kc) := by
    obtain ⟨l⟩ := cs
    have ecs : l = L.vCells t (.slice ka ks.length kc) := ecs
    rw [ecs]
    rfl
  rw [ev]
  rw [ev] at hW' k0
  clear hA0 hval0 hsz hsz0 hd hval
  refine (Z.colors_walk t ks ka kc a1 hlo hhi W hks z1 z2 hOk).mono fun e W' ⟨he, bel⟩ => ?_
  subst he
  exact ⟨_, rfl, _, _, _, [], _, [], hW', trodAll_mk1 (shut_bool Tryz.underlying4 _), (trodAll_cons_mk (Below.trod laidOut (by kernel_rfl) (of_decide_eq_true (by kernel_rfl)) k0 bel lt0) (trodAll_cons_mk (shut_int Tryz.underlying41 w1) trodAll_mk0)), rfl, bel.frame _, fun h => by cases h⟩


theorem valueColors_over : Rows.ValueColorsSaid :=
  OpenClaim.holds_of_wide 7 Tryz.f7 rfl rfl rfl rfl rfl rfl rfl ⟨rfl, rfl, rfl, rfl, rfl⟩ rfl rfl rfl rfl rfl (by kernel_rfl) Tryz.func7 (by kernel_rfl)
    (of_decide_eq_true (by kernel_rfl)) (by unfold Func.isWrapper; first | (rw [if_pos (by decide +kernel)]; kernel_rfl) | (rw [if_neg (by decide +kernel)]; exact ⟨rfl, rfl⟩))
    (fun os started H enc _ => lifted os started H enc)
theorem valueColors_card_holds : Rows.ValueColorsCardSaid :=
  Claim7.holds_tied_plain_at .later [] [.data, .data, .data, .data, .data, .pinned] true (true, "9aa51f73afc68e93e595cc4d3327b3631534b65ecca6f5f01b4a33b5f8ab53dd") false
    valueColors_over (fun _ h => by cases h) (by kernel_rfl) (fun _ h => by cases h) valueColors_row_tie rfl ⟨rfl, rfl⟩ (by kernel_rfl) rfl
    (fun f fn hf hfn => by
      obtain rfl : f = 7 := Option.some.inj ((show Tryz.prog.funcNamed "gouache/gouachelaw15.ValueColors" = some 7 by kernel_rfl).symm.trans hf) |>.symm
      obtain rfl : fn = Tryz.f7 := (Option.some.inj (Tryz.func7.symm.trans hfn)).symm
      exact ⟨by kernel_rfl, fun j t ht => by
        rw [Tryz.params7] at ht
        have hm : t ∈ [32, 41] := by
          have := Array.mem_of_getElem? ht
          simpa using this
        have hall : ([32, 41].all fun u => !Tryz.prog.wantsStandIn u) = true := by kernel_rfl
        exact (show Tryz.prog.wantsStandIn t = false by simpa using List.all_eq_true.1 hall t hm)⟩)
    (by kernel_rfl)
#print axioms valueColors_card_holds
end Go.Proofs.YtfgnlgkpgihbmaaGreatDoor
