/- Waiting where nothing waits. -/
import Derived.Test.YtlnpiadjnjdfiaaELv
import Derived.Shelf.SlSortCmp.NoneTotal
import Derived.Shelf.Small.Bits
import Derived.Shelf.Lay
import Derived.Ground.SlsfProg
import Derived.Ground.NamesProg
namespace Go.Proofs.Ytlnpiadjnjdfiaa.E
open Go.Shelf Go.RowKit
open Go.MuLone
set_option maxRecDepth 100000
shelf_lay_g SlLaysF0.n14 Slsf 14 at Try 64 as pdqIt
shelf_lay Lays.n125 Nm 125 at Try as bitsLen

theorem len_any (n : Nat) (W : World) (h : n ≤ 1000000) : Calls Try.prog 65 #[.int .u64 (n : Int)] W fun e w' => (∃ l : Int, e = .returned (.int .i64 l)) ∧ w' = W :=
  (Any.bits_Len bitsLen n W (by omega) (by omega)).mono fun _ _ ⟨he, hw⟩ => ⟨⟨_, he⟩, hw⟩
theorem sort_none (p : Option Addr) (c : Nat) (w : World) : Calls Try.prog 53 #[.slice p 0 c, .func (.func 54) #[] #[]] w fun e w' => (∃ v, e = .returned v) ∧ w' = w := by
  have hl : Calls Try.prog 65 #[.int .u64 0] w fun e w' => (∃ l : Int, e = .returned (.int .i64 l)) ∧ w' = w := len_any 0 w (by omega)
  have hp := fun (lim : Int) => AnyF.pdqsortCmpFunc_none pdqIt p c lim (.func (.func 54) #[] #[]) w
  change ∀ lim, Calls Try.prog 64 _ _ _ at hp
  go_enter Try.func53, Try.ntmps53
  go_wp2_with (first
    | (go_at_call 65; refine hl.mono ?_; rintro e w' ⟨⟨l, rfl⟩, hw⟩; rw [hw]; clear hw w')
    | (go_at_call 64; refine (hp _).mono ?_; rintro e w' ⟨rfl, hw⟩; rw [hw]; clear hw w'))
  go_end0
  exact ⟨⟨_, rfl⟩, rfl⟩
theorem sorted_none (p : Option Addr) (c : Nat) (w : World) : Calls Try.prog 43 #[.slice p 0 c] w fun e w' => e = .returned (.slice p 0 c) ∧ w' = w := by
  have hs := sort_none p c w
  go_enter Try.func43, Try.ntmps43
  go_wp2_with (go_at_call 53; refine hs.mono ?_; rintro e w' ⟨⟨v, rfl⟩, hw⟩; rw [hw]; clear hw w')
  go_ret
  exact ⟨rfl, rfl⟩
theorem run_append_empty {w : World} {base size n : Nat} {t t' e : TypeId} {i : TypeInfo} {v : Value} {xs : List Value} (ht : Try.prog.underlying t = some (.slice e)) (hi : Try.prog.info? e = some i) (hown : w.ownsRow base e size v n xs) (x : Option Addr) (c : Nat) :
    (Builtin.append_ #[t, t] t' #[v, .slice x 0 c]).run Try.prog w = .ok v w := by
  obtain ⟨hl, h⟩ := hown
  rcases h with ⟨rfl, hn⟩ | ⟨g, cap, cur, rfl, _, hg, hnc, hcm, hsz, hx⟩
  · cases x <;> simp [Builtin.append_, run_underlying ht, sizeOf, typeInfo, hi, Builtin.lenOf, Builtin.firstCells, loadCells, loadCellsFrom]
  · cases x <;> simp [Builtin.append_, run_underlying ht, sizeOf, typeInfo, hi, Builtin.lenOf, Builtin.firstCells, loadCells, loadCellsFrom, storeCells, hnc]
theorem wpList_append_same {P : Program} (w : World) {ops : Array Oper} {rest : List Oper} {o : Oper} {a : Act} {Q : Exit → Act → World → Prop} (hgd : o.guard = none) (s x : Operand) (t : TypeId)
    (ho : o.op = .call { callee := .builtin .append, args := #[s, x], argTypes := #[t, t] }) (v u : Value) (hs : a.eval s = v) (hx : a.eval x = u) (hr : (Builtin.append_ #[t, t] o.type #[v, u]).run P w = .ok v w) (h : wpList P ops Q rest (a.put o.dst v) w) : wpList P ops Q (o :: rest) a w := by
  refine wpList_plain hgd fun K hK => ?_
  unfold Oper.wp execOp
  simp only [ho, resolve, invoke, builtin, Sem.run_bind, Sem.run_pure, Result.andThen_ok, List.map_toArray, List.map_cons, List.map_nil, hs, hx, hr]
  exact hK _ _ h

set_option maxHeartbeats 1000000 in
theorem copied_none {w : World} {X : EX} {v : Value} (h : EO w X v []) : Calls Try.prog 42 #[.pointer (some ⟨X.b, 0, none⟩)] w fun e w' => e = .returned (.slice none 0 0) ∧ EO w' X v [] ∧ Kv X.b v w v w' := by
  obtain ⟨i0, hi0, _, _, _⟩ := info_parts Try.info48s
  have hbx : Bx w X.b X.n X.now X.S 0 v := by have := h.es.bx; rw [h.m] at this; exact this
  have hl := hid_mk (lock_it hbx)
  have HEO : Hid (∀ w', w' = (w.setCell ⟨X.b, 10, none⟩ (.int .i32 1)).setCell ⟨X.b, 10, none⟩ (.int .i32 0) → EO w' X v [] ∧ Kv X.b v w v w') := fun w' hw' => h.locked hw'
  obtain ⟨va, vc, rfl⟩ := own_slice h.es.row
  clear h hbx
  go_enter_defers Try.func42, Try.ntmps42
  go_wp2_with (go_at_call 30; fail)
  refine hl.out.mono ?_
  rintro e w1 ⟨⟨v1, rfl⟩, hb1, _, hw1⟩
  have hwt := hb1.waits
  have HB1 := hid_mk hb1
  have HW1 := hid_mk hw1
  clear hb1 hw1
  go_wp2_with (at_builtin; refine wpList_append_same _ rfl _ _ 67 rfl (.slice none 0 0) _ rfl rfl (run_append_empty Try.underlying67 hi0 (own_nil w1 0 48 2) _ _) ?_)
  refine leaves_cons (f := 31) (args := #[.pointer (some ⟨X.b, 10, none⟩)]) (by simp) (by simp [go_sem]) ?_
  refine (free_it HB1.out).mono ?_
  rintro e u' w3 ⟨rfl, rfl, _, _, hw3⟩
  exact ⟨_, results_tmp rfl _ _ _, rfl, HEO.out _ (by rw [hw3, HW1.out])⟩
theorem waiting_empty {w : World} {X : EX} {v : Value} (h : EO w X v []) : Calls Try.prog 22 #[.pointer (some ⟨X.b, 0, none⟩)] w fun e w' => e = .returned (.slice none 0 0) ∧ EO w' X v [] ∧ Kv X.b v w v w' := by
  have hm := hid_mk (made_any h.es.bx.pins h.n1)
  have hc := hid_mk (copied_none h)
  clear h
  go_enter Try.func22, Try.ntmps22
  go_wp2_with (go_at_call 29; refine hm.out.mono ?_; rintro e w' ⟨rfl, hw⟩; rw [hw]; clear hw w')
  refine hc.out.mono ?_
  rintro e w1 ⟨rfl, h1, h2⟩
  have hs := sorted_none none 0 w1
  have HE : Hid (EO w1 X v [] ∧ Kv X.b v w v w1) := ⟨h1, h2⟩
  clear h1 h2 hc
  go_wp2_with (go_at_call 43; refine hs.mono ?_; rintro e w' ⟨rfl, hw⟩; rw [hw]; clear hw w')
  go_ret
  exact ⟨rfl, HE.out⟩
end Go.Proofs.Ytlnpiadjnjdfiaa.E
