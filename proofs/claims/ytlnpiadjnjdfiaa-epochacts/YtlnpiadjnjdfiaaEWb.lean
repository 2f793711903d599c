/- Waiting: copied, and put in order. -/
import Derived.Test.YtlnpiadjnjdfiaaEWa
namespace Go.Proofs.Ytlnpiadjnjdfiaa.E
open Go.Shelf Go.RowKit
open Go.MuLone
set_option maxRecDepth 100000

set_option maxHeartbeats 2000000 in
theorem order_lays (w : World) (x y : It) : Calls Try.prog 54 #[rv x, rv y] w fun e w' => e = .returned (.int .i64 (ordZ x y)) ∧ ∃ q os', w' = Sort.grow (w.drewN q) os' := by
  have hc : ∀ W a b, Hid (Calls Try.prog 67 #[.int .i64 a, .int .i64 b] W fun e w' => e = .returned (.int .i64 (cmpZ a b)) ∧ w' = W) := cmp_any
  have HE : Hid (ordZ x y = orZ (cmpZ x.2 y.2) (cmpZ x.1 y.1)) := rfl
  have HT := hid_mk (twoB_mk w x y)
  unfold rv
  obtain ⟨x1, x2⟩ := x
  obtain ⟨y1, y2⟩ := y
  dsimp only at *
  generalize ordZ (x1, x2) (y1, y2) = r at *
  go_enter Try.func54, Try.ntmps54
  go_upto_region 1 with (fail)
  obtain ⟨hb1, hb2, hB⟩ := HT.out
  generalize hwc : (w.alloc (.cells #[.int .i64 x1, .int .i64 x2] 48)).alloc (.cells #[.int .i64 y1, .int .i64 y2] 48) = wc at *
  have HWC := hid_mk hwc
  clear hwc
  generalize w.heap.size + 1 = b2 at *
  obtain ⟨b1, hb⟩ : ∃ b1, b1 = w.heap.size := ⟨_, rfl⟩
  have HBB := hid_mk hb
  rw [← hb] at hb1 ⊢
  clear hb
  obtain ⟨ca, cb⟩ := hb1.cells
  obtain ⟨cc, cd⟩ := hb2.cells
  have HB := hid_mk hB
  have HO := hid_mk (or_box (w := wc) (x := cmpZ x2 y2) (y := cmpZ x1 y1))
  have HS : Hid (∀ W, Below wc.heap.size wc W → W.cell? ⟨b1, 1, none⟩ = some (.int .i64 x2) ∧ W.cell? ⟨b1, 0, none⟩ = some (.int .i64 x1) ∧ W.cell? ⟨b2, 1, none⟩ = some (.int .i64 y2) ∧ W.cell? ⟨b2, 0, none⟩ = some (.int .i64 y1)) := fun W hW => ⟨(hb1.keep hW).cells.2, (hb1.keep hW).cells.1, (hb2.keep hW).cells.2, (hb2.keep hW).cells.1⟩
  have gd : Below wc.heap.size wc wc.drew := (Below.refl _ _).drew
  have ga : ∀ o, Below wc.heap.size wc (wc.alloc o).drew := fun o => ((Below.refl _ _).alloc (Nat.le_refl _) o).drew
  clear hb1 hb2 hB HT
  go_region_held3 (fun w' => w'.cell? ⟨b1, 1, none⟩ = some (.int .i64 x2) ∧ w'.cell? ⟨b1, 0, none⟩ = some (.int .i64 x1) ∧ w'.cell? ⟨b2, 1, none⟩ = some (.int .i64 y2) ∧ w'.cell? ⟨b2, 0, none⟩ = some (.int .i64 y1))
    (first | with_reducible exact HS.out _ gd | with_reducible exact HS.out _ (Below.refl _ _) | with_reducible exact HS.out _ (ga _))
    (first
    | (go_at_call 67; with_reducible refine (hc _ _ _).out.mono ?_; rintro q v1 ⟨rfl, hv1⟩; rw [hv1]; clear hv1 v1)
    | (go_at_call 66; with_reducible refine HO.out.mono ?_; rintro q v2 ⟨rfl, hv2⟩; rw [hv2]; clear hv2 v2))
  go_wp2
  go_ret
  refine ⟨by rw [HE.out]; rfl, 1, #[.cells #[.int .i64 x1, .int .i64 x2] 48, .cells #[.int .i64 y1, .int .i64 y2] 48, .cells #[.int .i64 (cmpZ x2 y2), .int .i64 (cmpZ x1 y1)] 3], ?_⟩
  rw [← HWC.out, Sort.alloc_eq_grow, Sort.alloc_eq_grow, Sort.alloc_eq_grow, Sort.grow_grow, Sort.grow_grow]
  rfl
theorem ltOf_bt (x y : It) : ltOf ordZ x y = bt x y := ord_bt x y
theorem swo_bt : Sort.SWO (ltOf ordZ) where
  irrefl x := by rw [ltOf_bt]; exact bt_ord.irr x
  trans x y z h1 h2 := by rw [ltOf_bt] at *; exact bt_ord.tr _ _ _ h1 h2
  ntrans x y z h1 h2 := by
    rw [ltOf_bt] at *
    rw [bt_no] at *
    omega
end Go.Proofs.Ytlnpiadjnjdfiaa.E
