/- TokenNumbers is true whatever the number and the unit, where the laid table holds. -/
import Derived.Test.YtbfgnfcecfjlnaaDoorBackNum
import Derived.Test.YtbfgnfcecfjlnaaDoorNamesWalk
namespace Go.Proofs.YtbfgnfcecfjlnaaDoor
open Go.RowKit

theorem partsL_len (s : ByteArray) : (partsL s).length ≤ 5 * s.size := by
  have h1 : ∀ l : List Int, (l.flatMap partL).length ≤ 5 * l.length := by
    intro l
    induction l with
    | nil => simp
    | cons c r ih =>
      have := partL_len c
      rw [List.flatMap_cons, List.length_append, List.length_cons]
      omega
  have h2 := h1 (chars s)
  have h4 : (chars s).length ≤ s.size := charsFrom_len s s.size 0
  unfold partsL
  omega
theorem unitL_len (s : ByteArray) : (unitL s).length ≤ 5 * s.size + 5 := by
  unfold unitL
  split
  · have h1 := numL_len ((s.get! 0).toNat : Int)
    have h2 := partsL_len (s.extract 1 s.size)
    have h3 : (s.extract 1 s.size).size ≤ s.size := by simp
    rw [List.length_append]
    omega
  · exact escL_len s

set_option maxHeartbeats 4000000 in
set_option maxRecDepth 100000 in
theorem numbers_core (w : World) (n W : Int) (u : ByteArray) (hu0 : 0 < u.size) (hu1 : u.size ≤ 200) (hcl : (chars u).all cleanC = true) (d ds : List Int) (bl : Bool) (hd : Dig ds) (hdn : ds ≠ []) (hor : d = ds ∨ d = 45 :: ds) (hl : ds.length ≤ 20)
    (hdig : ∀ w', Calls Tryd.prog 15 #[.int .i64 n] w' fun e w'' => e = .returned (.string (strOfNums d)) ∧ w' = w'')
    (hun : ∀ w', Calls Tryd.prog 27 #[.string (strOfNums d)] w' fun e w'' => e = .returned (.tuple #[.string (strOfNums ds), .bool bl]) ∧ ∃ m, w'' = w'.drewN m)
    (hW : negZ bl (satL ds) = W) (hcase : (1000000 < n ∧ W = 1000000) ∨ (n < -1000000 ∧ W = -1000000) ∨ (-1000000 ≤ n ∧ n ≤ 1000000 ∧ W = n)) (ht : Tab w) :
    Calls Tryd.prog 6 #[.int .i64 n, .string u] w fun e w' => e = .returned (.bool true) ∧ Below w.heap.size w w' := by
  have h3 : 3 < w.heap.size := World.block_lt_of_cell? w _ ht
  have hn : Numb d := ⟨ds, hd, hdn, hor⟩
  obtain ⟨ca, cb, hsd⟩ := cut_num hn
  have cd := cut_dim hn u hu0 hcl
  have hsu := clean_str u hcl
  have hcu := clean_any u w
  rw [hcl] at hcu
  have hb2 : ¬ (200 : Int) < (u.size : Int) := by omega
  have hdl : d.length ≤ 21 := by
    rcases hor with rfl | rfl
    · omega
    · simp only [List.length_cons]; omega
  have hde : d ≠ [] := by have := numb_ne hn []; rwa [List.append_nil] at this
  have hda : ∀ x ∈ d, 0 ≤ x ∧ x < 256 := fun x hx => by have := (numb_told hn).1 x hx; omega
  have hul := unitL_len u
  have hz1 : (strOfNums d).size ≤ 21 := by rw [strOf_size]; exact hdl
  have hz2 : (strOfNums d ++ ⟨#[37]⟩ : ByteArray).size ≤ 1000000000 := by
    rw [ByteArray.size_append, strOf_size]
    have : (⟨#[37]⟩ : ByteArray).size = 1 := rfl
    omega
  have hz3 : (strOfNums (d ++ unitL u)).size ≤ 1000000000 := by rw [strOf_size, List.length_append]; omega
  have hka := fun w' => cut_any (strOfNums d) w' (by omega)
  have hkb := fun w' => cut_any (strOfNums d ++ ⟨#[37]⟩) w' hz2
  have hkd := fun w' => cut_any (strOfNums (d ++ unitL u)) w' hz3
  rw [ca] at hka
  rw [cb] at hkb
  rw [cd] at hkd
  have hsrc := fun w' ht' h3' => source_dim d hda hde (by omega) u (by omega) hu0 true false w' ht' h3'
  have hint := fun k hk w' => int_any k hk (strOfNums d) ⟨#[]⟩ false bl ds hd hdn (by omega) w' hun
  have hne : u ≠ ⟨#[]⟩ := by
    intro e
    rw [e] at hu0
    exact absurd hu0 (by decide)
  have hne3 : (u.toList == []) = false := by
    rw [Bool.eq_false_iff]
    intro h
    rw [beq_iff_eq, ByteArray.toList_eq] at h
    exact hne (ByteArray.ext (Array.toList_inj.1 h))
  have hne1 : (u == ⟨#[]⟩) = false := by rw [beq_toListBytes, ByteArray.toList_eq ⟨#[]⟩]; exact hne3
  rw [hW] at hint
  have HDIG := hid_mk hdig
  have HKA := hid_mk hka
  have HKB := hid_mk hkb
  have HKD := hid_mk hkd
  have HSRC := hid_mk hsrc
  have HINT := hid_mk hint
  have HSU := hid_mk hsu
  have HSD := hid_mk hsd
  clear hdig hun hW hka hkb hkd hsrc hint hcl ca cb cd hn hor hl hd hdn hda hde hdl hul hz2 hz3 hne hsu hsd hu1
  generalize strOfNums d = sd at *
  generalize strOfNums (d ++ unitL u) = sx at *
  rcases hcase with ⟨g1, rfl⟩ | ⟨g1, rfl⟩ | ⟨g1, g2, rfl⟩
  all_goals
    go_enter Tryd.func6, Tryd.ntmps6
    go_wp2_with (go_at_call 7; fail)
    refine (hcu).mono ?_
    rintro e w1 ⟨rfl, b1⟩
    go_wp2_with (go_at_call 15; fail)
    refine (HDIG.out w1).mono ?_
    rintro e w' ⟨rfl, rfl⟩
    go_wp2_with (go_at_call 9; fail)
    refine (HKA.out w1).mono ?_
    rintro e w2 ⟨o2, rfl, ho2, b2⟩
    go_wp2_with (go_at_call 9; fail)
    refine (HKB.out w2).mono ?_
    rintro e w3 ⟨o3, rfl, ho3, b3⟩
    have B2 := b1.trans (b2.mono b1.size)
    have B3 := B2.trans (b3.mono B2.size)
    have ht3 := tab_below ht (B3.alloc B3.size (.cells #[.int .i64 12, .string sd, .string u, .bool true, .bool false] 28)) h3
    have h33 : 3 < (w3.alloc (.cells #[.int .i64 12, .string sd, .string u, .bool true, .bool false] 28)).heap.size := by have := B3.size; simp; omega
    go_wp2_with (go_at_call 13; fail)
    refine (HSRC.out _ ht3 h33).mono ?_
    rintro e w4 ⟨rfl, b4⟩
    go_wp2_with (go_at_call 9; fail)
    refine (HKD.out w4).mono ?_
    rintro e w5 ⟨o5, rfl, ho5, b5⟩
    have b35 : Below w3.heap.size w3 w5 := ((Below.refl _ w3).alloc (Nat.le_refl _) (.cells #[.int .i64 12, .string sd, .string u, .bool true, .bool false] 28)).trans ((b4.mono (by simp)).trans (b5.mono (by have := b4.size; simp at this; omega)))
    have b25 : Below w2.heap.size w2 w5 := b3.trans (b35.mono b3.size)
    have B5 : Below w.heap.size w w5 := B3.trans (b35.mono B3.size)
    have htb : w5.heap[w3.heap.size]? = some (.cells #[.int .i64 12, .string sd, .string u, .bool true, .bool false] 28 (0, 0)) := (b5.block _ (by have := b4.size; simp at this; omega)).trans ((b4.block _ (by simp)).trans (heap_alloc_new w3 _))
    obtain ⟨t0, t1, t2, t3, t4, tf⟩ := cells5 htb
    obtain ⟨g2, cap2, rfl, hg2, hcap2, x0, x1, x2, x3, x4⟩ := cells_one ho2
    obtain ⟨g3, cap3, rfl, hg3, hcap3, y0, y1, y2, y3, y4⟩ := cells_one ho3
    obtain ⟨g5, cap5, rfl, hg5, hcap5, z0, z1, z2, z3, z4⟩ := cells_one ho5
    have X0 := (b25.cell (p := ⟨g2, 0, none⟩) hg2).trans x0
    have X1 := (b25.cell (p := ⟨g2, 1, none⟩) hg2).trans x1
    have X2 := (b25.cell (p := ⟨g2, 2, none⟩) hg2).trans x2
    have X3 := (b25.cell (p := ⟨g2, 3, none⟩) hg2).trans x3
    have X4 := (b25.cell (p := ⟨g2, 4, none⟩) hg2).trans x4
    have Y0 := (b35.cell (p := ⟨g3, 0, none⟩) hg3).trans y0
    have Y1 := (b35.cell (p := ⟨g3, 1, none⟩) hg3).trans y1
    have Y2 := (b35.cell (p := ⟨g3, 2, none⟩) hg3).trans y2
    have Y3 := (b35.cell (p := ⟨g3, 3, none⟩) hg3).trans y3
    have Y4 := (b35.cell (p := ⟨g3, 4, none⟩) hg3).trans y4
    have e0 : strT [] = ⟨#[]⟩ := rfl
    simp only [mkTok] at X0 X1 X2 X3 X4 Y0 Y1 Y2 Y3 Y4 z0 z1 z2 z3 z4
    rw [HSD.out] at X1 Y1 z1
    rw [e0] at X2 Y2
    rw [HSU.out] at z2
    have hg35 : g3 < w5.heap.size := by have := b35.size; omega
    have ht5 := tab_below ht B5 h3
    clear x0 x1 x2 x3 x4 y0 y1 y2 y3 y4 ho2 ho3 ho5 HDIG HKA HKB HKD HSRC e0 htb tf b35 b25 hcu ht3 h33 b5 b4 b3 b2 b1 B2 B3 hg2 hg3 hg5
    have HG := hid_mk hg35
    clear hg35
    go_wp2
    go_quiet (fail)
    have hB5d : Below w.heap.size w (w5.drewN nq) := B5.trans ((Kept.drewN w.heap.size w5 nq).below B5.size)
    have X0' : (w5.drewN nq).cell? ⟨g2, 0, none⟩ = some (.int .i64 10) := X0
    have X1' : (w5.drewN nq).cell? ⟨g2, 1, none⟩ = some (.string sd) := X1
    have X2' : (w5.drewN nq).cell? ⟨g2, 2, none⟩ = some (.string ⟨#[]⟩) := X2
    have X3' : (w5.drewN nq).cell? ⟨g2, 3, none⟩ = some (.bool true) := X3
    have X4' : (w5.drewN nq).cell? ⟨g2, 4, none⟩ = some (.bool false) := X4
    have Y0' : (w5.drewN nq).cell? ⟨g3, 0, none⟩ = some (.int .i64 11) := Y0
    have Y1' : (w5.drewN nq).cell? ⟨g3, 1, none⟩ = some (.string sd) := Y1
    have Y2' : (w5.drewN nq).cell? ⟨g3, 2, none⟩ = some (.string ⟨#[]⟩) := Y2
    have Y3' : (w5.drewN nq).cell? ⟨g3, 3, none⟩ = some (.bool true) := Y3
    have Y4' : (w5.drewN nq).cell? ⟨g3, 4, none⟩ = some (.bool false) := Y4
    have hgd : g3 < (w5.drewN nq).heap.size := HG.out
    clear X0 X1 X2 X3 X4 Y0 Y1 Y2 Y3 Y4 z0 z1 z2 z3 z4 t0 t1 t2 t3 t4 HG B5 ht5
    generalize w5.drewN nq = w6 at *
    go_wp2_with (go_at_call 16; fail)
    refine (HINT.out 10 (.inl rfl) w6).mono ?_
    rintro e w7 ⟨rfl, b7⟩
    have B7 := hB5d.trans (b7.mono hB5d.size)
    have Z0 := (b7.cell (p := ⟨g3, 0, none⟩) hgd).trans Y0'
    have Z1 := (b7.cell (p := ⟨g3, 1, none⟩) hgd).trans Y1'
    have Z2 := (b7.cell (p := ⟨g3, 2, none⟩) hgd).trans Y2'
    have Z3 := (b7.cell (p := ⟨g3, 3, none⟩) hgd).trans Y3'
    have Z4 := (b7.cell (p := ⟨g3, 4, none⟩) hgd).trans Y4'
    clear X0' X1' X2' X3' X4' Y0' Y1' Y2' Y3' Y4'
    go_wp2_with (go_at_call 16; fail)
    refine (HINT.out 11 (.inr (.inl rfl)) w7).mono ?_
    rintro e w8 ⟨rfl, b8⟩
    have B8 := B7.trans (b8.mono B7.size)
    have hli := lives_any w8 (tab_below ht B8 h3) (by have := B8.size; omega)
    clear Z0 Z1 Z2 Z3 Z4
    go_wp2_with (go_at_call 8; fail)
    refine (hli).mono ?_
    rintro e w9 ⟨rfl, b9⟩
    go_wp2
    go_ret
    exact ⟨rfl, B8.trans (b9.mono B8.size)⟩
theorem clamp_pos (N : Nat) (h : N ≤ 9223372036854775808) : negZ false (satL (decU N)) = if 1000000 < (N : Int) then 1000000 else (N : Int) := dec_sat N h
theorem clamp_neg (N : Nat) (h : N ≤ 9223372036854775808) : negZ true (satL (decU N)) = -(if 1000000 < (N : Int) then 1000000 else (N : Int)) := congrArg Neg.neg (dec_sat N h)

set_option maxHeartbeats 1000000 in
set_option maxRecDepth 100000 in
theorem numbers_walk (w : World) (n : Int) (u : ByteArray) (hn0 : -9223372036854775808 ≤ n) (hn1 : n ≤ 9223372036854775807) (ht : Tab w) :
    Calls Tryd.prog 6 #[.int .i64 n, .string u] w fun e w' => e = .returned (.bool true) ∧ Below w.heap.size w w' := by
  have h3 : 3 < w.heap.size := World.block_lt_of_cell? w _ ht
  by_cases hbig : 200 < u.size
  · have hb2 : (200 : Int) < (u.size : Int) := by omega
    have hli := lives_any w ht h3
    clear hbig
    go_enter Tryd.func6, Tryd.ntmps6
    go_wp2_with (go_at_call 8; fail)
    refine (hli).mono ?_
    rintro e w1 ⟨rfl, b1⟩
    go_wp2
    go_ret
    exact ⟨rfl, b1⟩
  · have hb2 : ¬ (200 : Int) < (u.size : Int) := by omega
    have hcu := clean_any u w
    cases hc : (chars u).all cleanC
    · rw [hc] at hcu
      clear hc
      go_enter Tryd.func6, Tryd.ntmps6
      go_wp2_with (go_at_call 7; fail)
      refine (hcu).mono ?_
      rintro e w1 ⟨rfl, b1⟩
      have hli := lives_any w1 (tab_below ht b1 h3) (by have := b1.size; omega)
      go_wp2_with (go_at_call 8; fail)
      refine (hli).mono ?_
      rintro e w2 ⟨rfl, b2⟩
      go_wp2
      go_ret
      exact ⟨rfl, b1.trans (b2.mono b1.size)⟩
    · by_cases hz : u.size = 0
      · have hs0 : u = ⟨#[]⟩ := by
          cases u with
          | mk d =>
            have : d.size = 0 := hz
            have : d = #[] := by simpa using this
            subst this
            rfl
        subst hs0
        rw [hc] at hcu
        clear hc hz hbig hb2
        go_enter Tryd.func6, Tryd.ntmps6
        go_wp2_with (go_at_call 7; fail)
        refine (hcu).mono ?_
        rintro e w1 ⟨rfl, b1⟩
        have hli := lives_any w1 (tab_below ht b1 h3) (by have := b1.size; omega)
        go_wp2_with (go_at_call 8; fail)
        refine (hli).mono ?_
        rintro e w2 ⟨rfl, b2⟩
        go_wp2
        go_ret
        exact ⟨rfl, b1.trans (b2.mono b1.size)⟩
      · clear hcu
        by_cases hneg : n < 0
        · obtain ⟨N, hN⟩ : ∃ N : Nat, n = -(N : Int) := ⟨(-n).toNat, by omega⟩
          refine numbers_core w n (-(if 1000000 < (N : Int) then 1000000 else (N : Int))) u (by omega) (by omega) hc (45 :: decU N) (decU N) true (dec_dig' N) (dec_ne N) (.inr rfl) (dec_len N) (fun w' => digits_neg N n hN hneg (by omega) w') (fun w' => unsigned_neg (decU N) w') (clamp_neg N (by omega)) ?_ ht
          by_cases hM : 1000000 < (N : Int)
          · rw [if_pos hM]; omega
          · rw [if_neg hM]; omega
        · obtain ⟨N, rfl⟩ : ∃ N : Nat, n = (N : Int) := ⟨n.toNat, by omega⟩
          obtain ⟨c, r, hcr⟩ := List.exists_cons_of_ne_nil (dec_ne N)
          have hun : ∀ w', Calls Tryd.prog 27 #[.string (strOfNums (decU N))] w' fun e w'' => e = .returned (.tuple #[.string (strOfNums (decU N)), .bool false]) ∧ ∃ m, w'' = w'.drewN m := by
            intro w'
            have hc0 := dec_dig' N c (by rw [hcr]; simp)
            rw [hcr]
            refine (unsigned_pos c r hc0 w').mono ?_
            rintro e w'' ⟨rfl, rfl⟩
            exact ⟨rfl, 0, rfl⟩
          refine numbers_core w (N : Int) (if 1000000 < (N : Int) then 1000000 else (N : Int)) u (by omega) (by omega) hc (decU N) (decU N) false (dec_dig' N) (dec_ne N) (.inl rfl) (dec_len N) (fun w' => digits_pos N hn1 w') hun (clamp_pos N (by omega)) ?_ ht
          by_cases hM : 1000000 < (N : Int)
          · rw [if_pos hM]; omega
          · rw [if_neg hM]; omega
end Go.Proofs.YtbfgnfcecfjlnaaDoor
