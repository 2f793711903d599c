/- Retire; Reclaim. -/
import Derived.Test.YtlnpiadjnjdfiaaEPi
namespace Go.Proofs.Ytlnpiadjnjdfiaa.E
open Go.RowKit
open Go.MuLone
set_option maxRecDepth 100000

/-- The lock is given back: what waits is as it was. -/
theorem ES.freed {w w' : World} {X : EX} {v : Value} {L : List It} (h : ES w { X with m := 1 } v L) (hm : X.m = 0) (hw : w' = w.setCell ⟨X.b, 10, none⟩ (.int .i32 0)) : ES w' X v L ∧ Kv X.b v w v w' := by
  have hk : Kv X.b v w v w' := by rw [hw]; exact (Kv.refl _ _ _).setB 10 _
  refine ⟨?_, hk⟩
  have hb : Bx w' X.b X.n X.now X.S 0 v := by
    rw [hw]
    exact Bx.setLock h.bx 0
  refine ⟨by rw [hm]; exact hb, ownsRow_keep h.row (fun g _ e => ?_), h.ne⟩
  rw [hw]
  exact Below.heap_setCell _ ⟨X.b, 10, none⟩ _ g (fun e2 => h.ne (by rw [e, e2]))
theorem ES.locked {w w' : World} {X : EX} {v : Value} {L : List It} (h : ES w X v L) (hw : w' = w.setCell ⟨X.b, 10, none⟩ (.int .i32 1)) : ES w' { X with m := 1 } v L ∧ Kv X.b v w v w' := by
  have hk : Kv X.b v w v w' := by rw [hw]; exact (Kv.refl _ _ _).setB 10 _
  refine ⟨?_, hk⟩
  have hb : Bx w' X.b X.n X.now X.S 1 v := by
    rw [hw]
    exact Bx.setLock h.bx 1
  refine ⟨hb, ownsRow_keep h.row (fun g _ e => ?_), h.ne⟩
  rw [hw]
  exact Below.heap_setCell _ ⟨X.b, 10, none⟩ _ g (fun e2 => h.ne (by rw [e, e2]))

set_option maxHeartbeats 2000000 in
theorem retire_any {w : World} {X : EX} {v : Value} {L : List It} (h : EO w X v L) (hL : L.length ≤ 999999) (id : Int) : Calls Try.prog 18 #[.pointer (some ⟨X.b, 0, none⟩), .int .i64 id] w fun e w' => e = .returned (.int .i64 0) ∧ ∃ v' K, EO w' X v' K ∧ K.Perm (L ++ [(id, X.now)]) ∧ Kv X.b v w v' w' := by
  have hbx : Bx w X.b X.n X.now X.S 0 v := by have := h.es.bx; rw [h.m] at this; exact this
  have hm := hid_mk (made_any h.es.bx.pins h.n1)
  have hl := hid_mk (lock_it hbx)
  have H := hid_mk h
  clear h hbx
  go_enter_defers Try.func18, Try.ntmps18
  go_wp2_with (go_at_call 29; refine hm.out.mono ?_; rintro e w' ⟨rfl, hw⟩; rw [hw]; clear hw w')
  refine hl.out.mono ?_
  rintro e w1 ⟨⟨v1, rfl⟩, _, _, hw1⟩
  obtain ⟨hE, hK⟩ := H.out.es.locked hw1
  have hEd : ES w1.drew { X with m := 1 } v L := hE.keep (Below.refl _ _).drew
  have hn := hid_mk (now_any hEd.bx H.out.n1)
  have hp : Hid (Calls Try.prog 38 #[.iface 78 (.pointer (some ⟨X.b, 12, none⟩)), .iface 48 (.agg #[.int .i64 id, .int .i64 X.now])] w1.drew fun e w' => (∃ v, e = .returned v) ∧ ∃ v' K, ES w' { X with m := 1 } v' K ∧ HeapL bt K.length K ∧ K.Perm (L ++ [(id, X.now)]) ∧ Kv X.b v w1.drew v' w') := hpush_any hEd H.out.hp hL (id, X.now)
  have HK : Hid (Kv X.b v w v w1.drew) := hK.trans (Kv.of_below (Below.refl _ _).drew)
  clear hw1 hE hEd hK hm hl
  go_upto_region 5 with (fail)
  go_region_held3 (fun _ => True) (trivial)
    (first
    | (go_at_call 23; with_reducible refine hn.out.mono ?_; rintro e w' ⟨rfl, hw⟩; rw [hw]; clear hw w')
    | (go_at_call 38; with_reducible refine hp.out.mono ?_; rintro e w2 ⟨⟨v2, rfl⟩, hR⟩; have HR := hid_mk hR; clear hR))
  all_goals
    obtain ⟨v', K, hE2, hH2, hp2, hk2⟩ := HR.out
    have hb2 := hE2.bx
    go_wp2
    refine leaves_cons (f := 31) (args := #[.pointer (some ⟨X.b, 10, none⟩)]) (by simp) (by simp [go_sem]) ?_
    refine (free_it hb2).mono ?_
    rintro e u' w3 ⟨rfl, rfl, hb3, _, hw3⟩
    obtain ⟨hE3, hk3⟩ := hE2.freed H.out.m hw3
    exact ⟨_, results_tmp rfl _ _ _, rfl, v', K, ⟨hE3, H.out.m, H.out.n1, H.out.n8, hH2⟩, hp2, (HK.out.trans hk2).trans hk3⟩
end Go.Proofs.Ytlnpiadjnjdfiaa.E
