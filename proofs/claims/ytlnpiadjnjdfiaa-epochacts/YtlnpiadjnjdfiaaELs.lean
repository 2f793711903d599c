/- order; the pile's Len, Less and Swap. -/
import Derived.Test.YtlnpiadjnjdfiaaEPl
import Derived.Deep.RegionHeld3
namespace Go.Proofs.Ytlnpiadjnjdfiaa.E
open Go.RowKit
set_option maxRecDepth 100000

def ordZ (x y : It) : Int := orZ (cmpZ x.2 y.2) (cmpZ x.1 y.1)
theorem ord_bt (x y : It) : decide (ordZ x y < 0) = bt x y := by
  unfold ordZ orZ bt
  apply decide_eq_decide.2
  unfold cmpZ
  by_cases h1 : x.2 < y.2
  · simp [h1]
  · by_cases h2 : x.2 > y.2
    · simp [h1, h2]; omega
    · simp [h1, h2]
      by_cases h3 : x.1 < y.1
      · simp [h3]; omega
      · by_cases h4 : x.1 > y.1
        · simp [h3, h4]
        · simp [h3, h4]
theorem cmpZ_small (x y : Int) : -1 ≤ cmpZ x y ∧ cmpZ x y ≤ 1 := by
  unfold cmpZ
  split
  · omega
  · split <;> omega
theorem plen_any (w : World) (a : Option Addr) (n c : Nat) : Calls Try.prog 109 #[.slice a n c] w fun e w' => e = .returned (.int .i64 n) ∧ w' = w := by
  go_enter Try.func109, Try.ntmps109
  go_wp2
  go_ret
  exact ⟨rfl, rfl⟩
theorem two_boxes (w : World) (o1 o2 : Obj) : ((w.alloc o1).alloc o2).drew.heap[w.heap.size]? = some o1 ∧ ((w.alloc o1).alloc o2).drew.heap[w.heap.size + 1]? = some o2 ∧ Below w.heap.size w ((w.alloc o1).alloc o2).drew := by
  refine ⟨?_, ?_, (((Below.refl _ _).alloc (Nat.le_refl _) _).alloc (by simp) _).drew⟩
  · show ((w.alloc o1).alloc o2).heap[w.heap.size]? = _
    rw [Below.heap_alloc _ _ _ (by simp)]
    exact heap_alloc_last _ _
  · show ((w.alloc o1).alloc o2).heap[w.heap.size + 1]? = _
    have := heap_alloc_last (w.alloc o1) o2
    rwa [World.size_alloc] at this
theorem or_box {w : World} {x y : Int} : Calls Try.prog 66 #[.slice (some ⟨w.heap.size, 0, none⟩) 2 2] (w.alloc (.cells #[.int .i64 x, .int .i64 y] 3)).drew fun e w' => e = .returned (.int .i64 (orZ x y)) ∧ w' = (w.alloc (.cells #[.int .i64 x, .int .i64 y] 3)).drew := by
  have h : (w.alloc (.cells #[.int .i64 x, .int .i64 y] 3)).drew.heap[w.heap.size]? = some (.cells #[.int .i64 x, .int .i64 y] 3 (0, 0)) := heap_alloc_last w _
  generalize (w.alloc (.cells #[.int .i64 x, .int .i64 y] 3)).drew = W at *
  exact or_any (by simp [World.cell?, h]) (by simp [World.cell?, h])
/-- A block that holds an item. -/
def Box2 (w : World) (b : Nat) (t : TypeId) (r : It) : Prop := w.heap[b]? = some (.cells #[.int .i64 r.1, .int .i64 r.2] t (0, 0))
theorem Box2.cells {w : World} {b : Nat} {t : TypeId} {r : It} (h : Box2 w b t r) : w.cell? ⟨b, 0, none⟩ = some (.int .i64 r.1) ∧ w.cell? ⟨b, 1, none⟩ = some (.int .i64 r.2) := by
  unfold Box2 at h
  constructor <;> simp [World.cell?, h]
theorem Box2.lt {w : World} {b : Nat} {t : TypeId} {e : It} (h : Box2 w b t e) : b < w.heap.size := (Array.getElem?_eq_some_iff.1 h).1
theorem Box2.keep {w w' : World} {b : Nat} {t : TypeId} {e : It} (h : Box2 w b t e) (hb : Below w.heap.size w w') : Box2 w' b t e := (hb.block b h.lt).trans h
/-- Two boxes. -/
def TwoB (w : World) (x y : It) (p q : Value) (w' : World) : Prop := ∃ b1 b2, p = .pointer (some ⟨b1, 0, none⟩) ∧ q = .pointer (some ⟨b2, 0, none⟩) ∧ Box2 w' b1 48 x ∧ Box2 w' b2 48 y ∧ Below w.heap.size w w'
theorem twoB_mk (w : World) (x y : It) : Box2 ((w.alloc (.cells #[.int .i64 x.1, .int .i64 x.2] 48)).alloc (.cells #[.int .i64 y.1, .int .i64 y.2] 48)) w.heap.size 48 x ∧ Box2 ((w.alloc (.cells #[.int .i64 x.1, .int .i64 x.2] 48)).alloc (.cells #[.int .i64 y.1, .int .i64 y.2] 48)) (w.heap.size + 1) 48 y ∧ Below w.heap.size w ((w.alloc (.cells #[.int .i64 x.1, .int .i64 x.2] 48)).alloc (.cells #[.int .i64 y.1, .int .i64 y.2] 48)) := by
  obtain ⟨h1, h2, h3⟩ := two_boxes w (.cells #[.int .i64 x.1, .int .i64 x.2] 48) (.cells #[.int .i64 y.1, .int .i64 y.2] 48)
  exact ⟨h1, h2, ((Below.refl _ _).alloc (Nat.le_refl _) _).alloc (by simp) _⟩

set_option maxHeartbeats 2000000 in
theorem order_any (w : World) (x y : It) : Calls Try.prog 54 #[rv x, rv y] w fun e w' => e = .returned (.int .i64 (ordZ x y)) ∧ Below w.heap.size w w' := by
  have hc : ∀ W a b, Hid (Calls Try.prog 67 #[.int .i64 a, .int .i64 b] W fun e w' => e = .returned (.int .i64 (cmpZ a b)) ∧ w' = W) := cmp_any
  have HE : Hid (ordZ x y = orZ (cmpZ x.2 y.2) (cmpZ x.1 y.1)) := rfl
  have HT := hid_mk (twoB_mk w x y)
  unfold rv
  obtain ⟨x1, x2⟩ := x
  obtain ⟨y1, y2⟩ := y
  dsimp only at *
  generalize ordZ (x1, x2) (y1, y2) = r at *
  go_enter Try.func54, Try.ntmps54
  go_upto_region 1 with (fail)
  obtain ⟨hb1, hb2, hB⟩ := HT.out
  generalize (w.alloc (.cells #[.int .i64 x1, .int .i64 x2] 48)).alloc (.cells #[.int .i64 y1, .int .i64 y2] 48) = wc at *
  generalize w.heap.size + 1 = b2 at *
  obtain ⟨b1, hb⟩ : ∃ b1, b1 = w.heap.size := ⟨_, rfl⟩
  have HBB := hid_mk hb
  rw [← hb] at hb1 ⊢
  clear hb
  obtain ⟨ca, cb⟩ := hb1.cells
  obtain ⟨cc, cd⟩ := hb2.cells
  have HB := hid_mk hB
  have HO := hid_mk (or_box (w := wc) (x := cmpZ x2 y2) (y := cmpZ x1 y1))
  have HS : Hid (∀ W, Below wc.heap.size wc W → W.cell? ⟨b1, 1, none⟩ = some (.int .i64 x2) ∧ W.cell? ⟨b1, 0, none⟩ = some (.int .i64 x1) ∧ W.cell? ⟨b2, 1, none⟩ = some (.int .i64 y2) ∧ W.cell? ⟨b2, 0, none⟩ = some (.int .i64 y1)) := fun W hW => ⟨(hb1.keep hW).cells.2, (hb1.keep hW).cells.1, (hb2.keep hW).cells.2, (hb2.keep hW).cells.1⟩
  have gd : Below wc.heap.size wc wc.drew := (Below.refl _ _).drew
  have ga : ∀ o, Below wc.heap.size wc (wc.alloc o).drew := fun o => ((Below.refl _ _).alloc (Nat.le_refl _) o).drew
  clear hb1 hb2 hB HT
  go_region_held3 (fun w' => w'.cell? ⟨b1, 1, none⟩ = some (.int .i64 x2) ∧ w'.cell? ⟨b1, 0, none⟩ = some (.int .i64 x1) ∧ w'.cell? ⟨b2, 1, none⟩ = some (.int .i64 y2) ∧ w'.cell? ⟨b2, 0, none⟩ = some (.int .i64 y1))
    (first | with_reducible exact HS.out _ gd | with_reducible exact HS.out _ (Below.refl _ _) | with_reducible exact HS.out _ (ga _))
    (first
    | (go_at_call 67; with_reducible refine (hc _ _ _).out.mono ?_; rintro q v1 ⟨rfl, hv1⟩; rw [hv1]; clear hv1 v1)
    | (go_at_call 66; with_reducible refine HO.out.mono ?_; rintro q v2 ⟨rfl, hv2⟩; rw [hv2]; clear hv2 v2))
  go_wp2
  go_ret
  exact ⟨by rw [HE.out]; rfl, HB.out.trans ((ga _).mono HB.out.size)⟩

set_option maxHeartbeats 1000000 in
theorem pless_any {w : World} {g cap : Nat} {L : List It} (h : Pl w g cap L) (i j : Nat) (hi : i < L.length) (hj : j < L.length) : Calls Try.prog 110 #[.slice (some ⟨g, 0, none⟩) L.length cap, .int .i64 (i : Int), .int .i64 (j : Int)] w fun e w' => e = .returned (.bool (bt L[i] L[j])) ∧ Below w.heap.size w w' := by
  have HO := hid_mk (fun W (_ : Below w.heap.size w W) => order_any W L[i] L[j])
  have HE : Hid (decide (ordZ L[i] L[j] < 0) = bt L[i] L[j]) := ord_bt _ _
  obtain ⟨c0, c1⟩ := h.at hi
  obtain ⟨d0, d1⟩ := h.at hj
  have hg := h.cap_le.2.2
  have hcap := h.cap_le
  unfold maxLen at hcap
  have HS : Hid (∀ W, Below w.heap.size w W → (W.cell? ⟨g, i * 2, none⟩ = some (.int .i64 L[i].1) ∧ W.cell? ⟨g, i * 2 + 1, none⟩ = some (.int .i64 L[i].2)) ∧ (W.cell? ⟨g, j * 2, none⟩ = some (.int .i64 L[j].1) ∧ W.cell? ⟨g, j * 2 + 1, none⟩ = some (.int .i64 L[j].2))) := fun W hW => by
    have h2 := h.keep (hW.block g hg)
    exact ⟨h2.at hi, h2.at hj⟩
  unfold rv at HO
  generalize bt L[i] L[j] = r at *
  generalize ordZ L[i] L[j] = z at *
  generalize L[i] = x at *
  generalize L[j] = y at *
  obtain ⟨x1, x2⟩ := x
  obtain ⟨y1, y2⟩ := y
  dsimp only at *
  clear h
  generalize L.length = n at *
  have gd : Below w.heap.size w w.drew := (Below.refl _ _).drew
  go_enter Try.func110, Try.ntmps110
  go_upto_region 1 with (fail)
  go_region_held3 (fun W => (W.cell? ⟨g, i * 2, none⟩ = some (.int .i64 x1) ∧ W.cell? ⟨g, i * 2 + 1, none⟩ = some (.int .i64 x2)) ∧ (W.cell? ⟨g, j * 2, none⟩ = some (.int .i64 y1) ∧ W.cell? ⟨g, j * 2 + 1, none⟩ = some (.int .i64 y2)))
    (first | with_reducible exact HS.out _ gd | with_reducible exact HS.out _ (Below.refl _ _) | with_reducible exact HS.out _ ga)
    (first
    | (go_at_call 54; with_reducible refine (HO.out _ gd).mono ?_; rintro q v1 ⟨rfl, hv1⟩; have ga := gd.trans (hv1.mono gd.size)))
  go_wp2
  go_ret
  exact ⟨by rw [← HE.out]; rfl, ga⟩

set_option maxHeartbeats 4000000 in
theorem pswap_any {w : World} {g cap : Nat} {L : List It} (h : Pl w g cap L) (i j : Nat) (hi : i < L.length) (hj : j < L.length) (hij : i ≠ j) : Calls Try.prog 111 #[.slice (some ⟨g, 0, none⟩) L.length cap, .int .i64 (i : Int), .int .i64 (j : Int)] w fun e w' => (∃ v, e = .returned v) ∧ w' = (put2 (put2 w g (i * 2) L[j]) g (j * 2) L[i]).drew := by
  obtain ⟨c0, c1⟩ := h.at hi
  obtain ⟨d0, d1⟩ := h.at hj
  have hg := h.cap_le.2.2
  have hcap := h.cap_le
  have hfr := h.unfrozen
  unfold maxLen at hcap
  generalize L[i] = x at *
  generalize L[j] = y at *
  obtain ⟨x1, x2⟩ := x
  obtain ⟨y1, y2⟩ := y
  unfold put2
  dsimp only at *
  clear h
  generalize L.length = n at *
  go_enter Try.func111, Try.ntmps111
  go_upto_region 0 with (fail)
  go_region
  go_end0
  exact ⟨⟨_, rfl⟩, rfl⟩
set_option maxHeartbeats 4000000 in
theorem pswap_self {w : World} {g cap : Nat} {L : List It} (h : Pl w g cap L) (i : Nat) (hi : i < L.length) : Calls Try.prog 111 #[.slice (some ⟨g, 0, none⟩) L.length cap, .int .i64 (i : Int), .int .i64 (i : Int)] w fun e w' => (∃ v, e = .returned v) ∧ w' = (put2 (put2 w g (i * 2) L[i]) g (i * 2) L[i]).drew := by
  obtain ⟨c0, c1⟩ := h.at hi
  have hg := h.cap_le.2.2
  have hcap := h.cap_le
  have hfr := h.unfrozen
  unfold maxLen at hcap
  generalize L[i] = x at *
  obtain ⟨x1, x2⟩ := x
  unfold put2
  dsimp only at *
  clear h
  generalize L.length = n at *
  go_enter Try.func111, Try.ntmps111
  go_upto_region 0 with (fail)
  go_region
  go_end0
  exact ⟨⟨_, rfl⟩, rfl⟩
end Go.Proofs.Ytlnpiadjnjdfiaa.E
