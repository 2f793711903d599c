/- slices.Sort of keys: the median. -/
import Derived.Test.YtdiljkmlneeboaaSo5
namespace Go.Proofs.Ytdiljkmlneeboaa
open Go.RowKit Go.Sort
set_option maxRecDepth 100000

theorem order2_lt {d : Array Int} {a b n N : Nat} (ha : a < N) (hb : b < N) : (Sort.order2 ltInt d a b n).1 < N ∧ (Sort.order2 ltInt d a b n).2.1 < N ∧ (Sort.order2 ltInt d a b n).2.2 ≤ n + 1 := by
  unfold Sort.order2
  split
  · exact ⟨hb, ha, Nat.le_refl _⟩
  · exact ⟨ha, hb, Nat.le_succ _⟩

set_option maxHeartbeats 4000000 in
theorem median_any {w W : World} {g s cap a b c n : Nat} {d : Array Int} (h : SC w g s d n W) (hgs : g ≠ s) (ha : a < d.size) (hb : b < d.size) (hc : c < d.size) (hn : n ≤ 900) :
    Calls Try.prog 48 #[.slice (some ⟨g, 0, none⟩) d.size cap, .int .i64 (a : Int), .int .i64 (b : Int), .int .i64 (c : Int), .pointer (some ⟨s, 0, none⟩)] W fun e w' => e = .returned (.int .i64 ((Sort.median ltInt d a b c n).1 : Int)) ∧ SC w g s d (Sort.median ltInt d a b c n).2 w' ∧ (Sort.median ltInt d a b c n).1 < d.size ∧ (Sort.median ltInt d a b c n).2 ≤ n + 3 := by
  have HO : Hid (∀ W a b n, SC w g s d n W → a < d.size → b < d.size → n ≤ 1000 → Calls Try.prog 50 #[.slice (some ⟨g, 0, none⟩) d.size cap, .int .i64 (a : Int), .int .i64 (b : Int), .pointer (some ⟨s, 0, none⟩)] W fun e w' => e = .returned (.tuple #[.int .i64 ((Sort.order2 ltInt d a b n).1 : Int), .int .i64 ((Sort.order2 ltInt d a b n).2.1 : Int)]) ∧ SC w g s d (Sort.order2 ltInt d a b n).2.2 w') := fun W a b n h ha hb hn => order2_any h hgs ha hb hn
  have HM : Hid (Sort.median ltInt d a b c n = ((Sort.order2 ltInt d (Sort.order2 ltInt d a b n).1 (Sort.order2 ltInt d (Sort.order2 ltInt d a b n).2.1 c (Sort.order2 ltInt d a b n).2.2).1 (Sort.order2 ltInt d (Sort.order2 ltInt d a b n).2.1 c (Sort.order2 ltInt d a b n).2.2).2.2).2.1, (Sort.order2 ltInt d (Sort.order2 ltInt d a b n).1 (Sort.order2 ltInt d (Sort.order2 ltInt d a b n).2.1 c (Sort.order2 ltInt d a b n).2.2).1 (Sort.order2 ltInt d (Sort.order2 ltInt d a b n).2.1 c (Sort.order2 ltInt d a b n).2.2).2.2).2.2)) := rfl
  obtain ⟨l1, l2, l3⟩ := order2_lt (d := d) (n := n) ha hb
  have h1 := HO.out W a b n h ha hb (by omega)
  generalize Sort.order2 ltInt d a b n = r1 at *
  obtain ⟨m1, m2, m3⟩ := order2_lt (d := d) (n := r1.2.2) l2 hc
  have H2 : Hid (∀ W, SC w g s d r1.2.2 W → _) := fun W h => HO.out W r1.2.1 c r1.2.2 h l2 hc (by omega)
  generalize Sort.order2 ltInt d r1.2.1 c r1.2.2 = r2 at *
  obtain ⟨n1, n2, n3⟩ := order2_lt (d := d) (n := r2.2.2) l1 m1
  have H3 : Hid (∀ W, SC w g s d r2.2.2 W → _) := fun W h => HO.out W r1.1 r2.1 r2.2.2 h l1 m1 (by omega)
  generalize Sort.order2 ltInt d r1.1 r2.1 r2.2.2 = r3 at *
  have HB : Hid (r3.2.1 < d.size ∧ r3.2.2 ≤ n + 3) := by rw [Hid]; omega
  rw [HM.out]
  obtain ⟨a1, b1, k1⟩ := r1
  obtain ⟨b2, c2, k2⟩ := r2
  obtain ⟨a3, b3, k3⟩ := r3
  dsimp only at *
  clear HO HM h l1 l2 l3 m1 m2 m3 n1 n2 n3
  go_enter Try.func48, Try.ntmps48
  go_wp2_with (go_at_call 50; fail)
  refine h1.mono ?_
  rintro e w1 ⟨rfl, hS1⟩
  have h2 := H2.out w1 hS1
  clear h1 hS1 H2
  go_wp2_with (go_at_call 50; fail)
  refine h2.mono ?_
  rintro e w2 ⟨rfl, hS2⟩
  have h3 := H3.out w2 hS2
  clear h2 hS2 H3
  go_wp2_with (go_at_call 50; fail)
  refine h3.mono ?_
  rintro e w3 ⟨rfl, hS3⟩
  have HS3 := hid_mk hS3
  clear h3 hS3
  go_wp2
  go_ret
  exact ⟨rfl, HS3.out, HB.out⟩

set_option maxHeartbeats 4000000 in
theorem adjacent_any {w W : World} {g s cap a n : Nat} {d : Array Int} (h : SC w g s d n W) (hgs : g ≠ s) (h1 : 1 ≤ a) (ha : a + 1 < d.size) (hn : n ≤ 900) (hsz : d.size ≤ 1000000) :
    Calls Try.prog 47 #[.slice (some ⟨g, 0, none⟩) d.size cap, .int .i64 (a : Int), .pointer (some ⟨s, 0, none⟩)] W fun e w' => e = .returned (.int .i64 ((Sort.medianAdjacent ltInt d a n).1 : Int)) ∧ SC w g s d (Sort.medianAdjacent ltInt d a n).2 w' ∧ (Sort.medianAdjacent ltInt d a n).1 < d.size ∧ (Sort.medianAdjacent ltInt d a n).2 ≤ n + 3 := by
  have hm := median_any (cap := cap) (a := a - 1) (b := a) (c := a + 1) h hgs (by omega) (by omega) (by omega) hn
  have HE : Hid (Sort.medianAdjacent ltInt d a n = Sort.median ltInt d (a - 1) a (a + 1) n) := rfl
  rw [HE.out]
  obtain ⟨p, hp⟩ : ∃ p, p = a - 1 := ⟨_, rfl⟩
  obtain ⟨q, hq⟩ : ∃ q, q = a + 1 := ⟨_, rfl⟩
  rw [← hp, ← hq] at hm ⊢
  have hw1 : IntKind.i64.wrap ((a : Int) - 1) = (p : Int) := by rw [IntKind.wrap_i64]; omega
  have hw2 : IntKind.i64.wrap ((a : Int) + 1) = (q : Int) := by rw [IntKind.wrap_i64]; omega
  generalize Sort.median ltInt d p a q n = M at *
  clear h HE hp hq
  go_enter Try.func47, Try.ntmps47
  go_wp2_with (go_at_call 48; fail)
  refine hm.mono ?_
  rintro e w1 ⟨rfl, hS⟩
  have HS := hid_mk hS
  clear hm hS
  go_wp2
  go_ret
  exact ⟨rfl, HS.out⟩
end Go.Proofs.Ytdiljkmlneeboaa
