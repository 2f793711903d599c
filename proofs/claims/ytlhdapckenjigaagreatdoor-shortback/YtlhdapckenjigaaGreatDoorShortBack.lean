/- Whatever the declaration: ShortBack answers true, and it reads as it did; the listed tables of short, value, strconv, math/bits and unicode/utf8 are tied to the program's text, one of them to a constant of the form. No other condition. -/
import Derived.Test.YtlhdapckenjigaaGreatDoorSBw
import Derived.Test.YtlhdapckenjigaaGreatDoorSSg
import Derived.Test.YtlhdapckenjigaaGreatDoorCards
import Derived.Test.YtlhdapckenjigaaGreatDoorTie
import Derived.ProofKit
import Derived.ShutString
import Derived.ChangeOld
import Derived.SizedLaws
import Derived.LaidMore
import Derived.OpenShut
import Derived.Lay
import Derived.Stop.Joined
import Derived.SevenTiedAt
namespace Go.Proofs.YtlhdapckenjigaaGreatDoor
open Go.ChangeShapes Go.WideShapes Go.ChangeAt Go.WideMaps Go.WideElems Go.RowKit
open Go.Proofs.YtlhdapckenjigaaGreatDoor.Z (laid7 of_laid)
open Go.ChangeMaps (open_string shut_string)
set_option maxRecDepth 100000

theorem own : ownKnob Tryz.prog.godebug = none := by kernel_rfl
theorem laidOut : laidOutB Tryz.prog = true := by kernel_rfl
theorem lifted (os : Os) (started : os.Started) (H : Type) (enc : TypeId × Value → H) :
    ReturnsInHanded {} Tryz.checked os 5 .any (fun w args => (Rows.shortBackSpec.pre enc Tryz.prog Tryz.f5 [] false w args ∧ laidMetH Tryz.prog laid7 w) ∧ sizedMet enc Tryz.prog Tryz.f5 (OpenSpec.ofChange Rows.shortBackSpec) false w args)
      (Rows.shortBackSpec.post enc Tryz.prog Tryz.f5 false true false false) := by
  refine returnsInHanded_of_calls own started (by kernel_rfl)
    (ChangeSpec.witness_shaped (enc := enc) (C := Tryz.checked) (os := os) (X := fun w _ => laidMetH Tryz.prog laid7 w) false (World.laidAll Tryz.prog os laid7) #[.agg #[.string ⟨#[]⟩, .slice none 0 0, .bool false]] 8 (World.laidAll_os _ _ _)
      (World.shaped_of_ZipB (by kernel_rfl) (by kernel_rfl)) (by kernel_rfl) (by kernel_rfl) (by kernel_rfl)
      (by rw [MakeChecks.laidMetH_plain _ _ _ (by kernel_rfl)]; exact laidMet_laidAll _ (by kernel_rfl) (by kernel_rfl))) ?_
  intro w tape i _ hsh _ hok hpre hholds
  obtain ⟨_, _, _, fn, hfn, _, _, _, _, hval0⟩ := hok
  obtain rfl : fn = Tryz.f5 := Option.some.inj (hfn.symm.trans Tryz.func5)
  obtain ⟨⟨_, hx⟩, _, ds, gs, before, hw, hsz0⟩ := hpre
  have hW := DataW.Whole.of_heap (w' := w.forCall tape i) (by rfl) hw
  have hM := P.MC.of hsh
  have hL := hx.of_heap (w' := w.forCall tape i) (by rfl)
  obtain ⟨W, hWe⟩ : ∃ W, W = w.forCall tape i := ⟨_, rfl⟩
  obtain ⟨args, hAe⟩ : ∃ args, args = i.args := ⟨_, rfl⟩
  rw [← hWe, ← hAe] at hW
  rw [← hWe] at hM hL
  rw [← hWe, ← hAe] at hval0
  rw [← hWe, ← hAe]
  have hOk : S.Okk W := ⟨⟨(of_laid hL).1, (of_laid hL).2.1, hM⟩, (of_laid hL).2.2⟩
  refine Calls.mono (R := fun e W' => ∃ v, e = .returned v ∧ Rows.shortBackSpec.post enc Tryz.prog Tryz.f5 false true false false W args v W') ?_ fun e W' ⟨v, he, hp⟩ => ?_
  case refine_2 =>
    subst he
    exact ChangeSpec.post_blind hp
  have hval : ∀ (j : Nat) t v, Tryz.f5.params[j]? = some t → args[j]? = some v → Value.okWide Tryz.prog W .any w.heap.size t v := hval0
  have hW' := hW
  obtain ⟨p, q, hA0, hV, rfl, hfz, hnd⟩ := hW
  have hA : DataW.TrodAll enc Tryz.prog W 0 (fun _ => true) true Tryz.f5.params.toList args.toList ds p := hA0
  rw [Tryz.params5] at hA hval
  clear hWe hAe
  obtain ⟨v1, vs1, d1, ds1, p1, q1, hargs, rfl, rfl, h1, r1⟩ := trodAll_cons hA
  obtain ⟨rfl, rfl, rfl⟩ := trodAll_nil r1
  obtain rfl : args = #[v1] := by cases args; simp_all
  obtain ⟨rfl, rfl⟩ := trodVars_none hV
  have hsz : (DataW.weightsEach Tryz.prog [26] [d1]).all (· ≤ reachBytes) = true := hsz0
  simp only [DataW.weightsEach, List.append_nil] at hsz
  have hw1 := hsz
  clear hsz hsz0
  have k1 := h1
  have lt1 : ∀ x ∈ p1, x.block < W.heap.size := by obtain ⟨m, hm⟩ := k1; exact DataW.trod_lt m _ _ _ hm
  have hoff := okWide_struct Tryz.underlying26 (hval 0 26 v1 rfl rfl)
  obtain ⟨cs1, rfl, _⟩ := hoff
  obtain ⟨dc, u1, e1, x1, y1, z1, t1⟩ : ∃ (d : S.Dc) (u : Value), cs1.toList = [.string d.n, u, .bool d.i] ∧ L.VsAt (fun _ => True) W u d.vs ∧ Y.V.most d.vs ∧ d.n.size ≤ 140737488351232 ∧ ∀ y ∈ d.vs, y.tok.tx.size ≤ 140737488351232 ∧ y.tok.un.size ≤ 140737488351232 := by
    obtain ⟨fuel, hf⟩ := h1
    exact S.open_decl (by simpa [Value.cells] using hf) hw1
  have e2 : cs1 = #[.string dc.n, u1, .bool dc.i] := by rw [← e1]
  subst e2
  clear hA0 hval0 hval
  refine (S.back_walk dc.n dc.i x1 y1 t1 hOk).mono fun e W' ⟨he, bel⟩ => ?_
  subst he
  exact ⟨_, rfl, _, _, _, [], _, [], hW', trodAll_mk1 (shut_bool Tryz.underlying4 _), (trodAll_cons_mk (Below.trod laidOut (by kernel_rfl) (of_decide_eq_true (by kernel_rfl)) k1 bel lt1) trodAll_mk0), rfl, bel.frame _, fun h => by cases h⟩


theorem shortBack_over : Rows.ShortBackSaid :=
  OpenClaim.holds_of_wide 5 Tryz.f5 rfl rfl rfl rfl rfl rfl rfl ⟨rfl, rfl, rfl, rfl, rfl⟩ rfl rfl rfl rfl rfl (by kernel_rfl) Tryz.func5 (by kernel_rfl)
    (of_decide_eq_true (by kernel_rfl)) (by unfold Func.isWrapper; first | (rw [if_pos (by decide +kernel)]; kernel_rfl) | (rw [if_neg (by decide +kernel)]; exact ⟨rfl, rfl⟩))
    (fun os started H enc _ => lifted os started H enc)
theorem shortBack_card_holds : Rows.ShortBackCardSaid :=
  Claim7.holds_tied_plain_at .later [] [.data, .data, .data, .data, .data, .data, .pinned] true (true, "1acb833b1e7088a0af136e06f9692e1477035b1d798dd368ba3799a7247fca7b") false
    shortBack_over (fun _ h => by cases h) (by kernel_rfl) (fun _ h => by cases h) shortBack_row_tie rfl ⟨rfl, rfl⟩ (by kernel_rfl) rfl
    (fun f fn hf hfn => by
      obtain rfl : f = 5 := Option.some.inj ((show Tryz.prog.funcNamed "gouache/gouachelaw16.ShortBack" = some 5 by kernel_rfl).symm.trans hf) |>.symm
      obtain rfl : fn = Tryz.f5 := (Option.some.inj (Tryz.func5.symm.trans hfn)).symm
      exact ⟨by kernel_rfl, fun j t ht => by
        rw [Tryz.params5] at ht
        have hm : t ∈ [26] := by
          have := Array.mem_of_getElem? ht
          simpa using this
        have hall : ([26].all fun u => !Tryz.prog.wantsStandIn u) = true := by kernel_rfl
        exact (show Tryz.prog.wantsStandIn t = false by simpa using List.all_eq_true.1 hall t hm)⟩)
    (by kernel_rfl)
#print axioms shortBack_card_holds
end Go.Proofs.YtlhdapckenjigaaGreatDoor
