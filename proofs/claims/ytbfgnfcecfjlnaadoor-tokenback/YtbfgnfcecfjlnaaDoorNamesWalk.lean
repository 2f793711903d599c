/- TokenNames is true whatever the text, where the laid table holds. -/
import Derived.Test.YtbfgnfcecfjlnaaDoorQuotes
namespace Go.Proofs.YtbfgnfcecfjlnaaDoor
open Go.RowKit

theorem cells_one {B : Nat} {w : World} {out : Value} {t : Tok} (h : Outs B w out [t]) :
    ∃ g cap, out = .slice (some ⟨g, 0, none⟩) 1 cap ∧ g < w.heap.size ∧ 1 ≤ cap ∧ w.cell? ⟨g, 0, none⟩ = some (.int .i64 t.kind) ∧ w.cell? ⟨g, 1, none⟩ = some (.string (strT t.text)) ∧ w.cell? ⟨g, 2, none⟩ = some (.string (strT t.unit)) ∧ w.cell? ⟨g, 3, none⟩ = some (.bool t.whole) ∧ w.cell? ⟨g, 4, none⟩ = some (.bool t.flag) := by
  obtain ⟨g, cap, hv, hg, hcap, hc⟩ := outs_cells h (by simp)
  exact ⟨g, cap, hv, hg, hcap, hc 0 _ rfl, hc 1 _ rfl, hc 2 _ rfl, hc 3 _ rfl, hc 4 _ rfl⟩

theorem escFrom_len (s : ByteArray) : ∀ (f pos : Nat), (escFrom s f pos).length ≤ 5 * f
  | 0, _ => by simp [escFrom]
  | f + 1, pos => by
    rw [escFrom]
    split
    · have h1 := escFrom_len s f (pos + (Utf8.decode s pos).2)
      have h2 : (escAt s pos (Utf8.decode s pos).1).length ≤ 5 := by
        unfold escAt
        split
        · have := numL_len ((Utf8.decode s pos).1 : Int); omega
        · exact partL_len _
      rw [List.length_append]
      omega
    · simp
theorem escL_len (s : ByteArray) : (escL s).length ≤ 5 * s.size + 5 := by
  unfold escL
  split
  · have : (slashL 45).length = 2 := by decide +kernel
    omega
  · have := escFrom_len s s.size 0
    omega

set_option maxHeartbeats 2000000 in
set_option maxRecDepth 100000 in
theorem names_walk (w : World) (s : ByteArray) (ht : Tab w) : Calls Tryd.prog 3 #[.string s] w fun e w' => e = .returned (.bool true) ∧ Below w.heap.size w w' := by
  have h3 : 3 < w.heap.size := World.block_lt_of_cell? w _ ht
  by_cases hbig : 2000 < s.size
  · have hb2 : (2000 : Int) < (s.size : Int) := by omega
    have hli := lives_any w ht h3
    clear hbig
    go_enter Tryd.func3, Tryd.ntmps3
    go_wp2_with (go_at_call 8; fail)
    refine (hli).mono ?_
    rintro e w1 ⟨rfl, b1⟩
    go_wp2
    go_ret
    exact ⟨rfl, b1⟩
  · have hb2 : ¬ (2000 : Int) < (s.size : Int) := by omega
    have hcl := clean_any s w
    cases hc : (chars s).all cleanC
    · rw [hc] at hcl
      clear hc
      go_enter Tryd.func3, Tryd.ntmps3
      go_wp2_with (go_at_call 7; fail)
      refine (hcl).mono ?_
      rintro e w1 ⟨rfl, b1⟩
      have hli := lives_any w1 (tab_below ht b1 h3) (by have := b1.size; omega)
      go_wp2_with (go_at_call 8; fail)
      refine (hli).mono ?_
      rintro e w2 ⟨rfl, b2⟩
      go_wp2
      go_ret
      exact ⟨rfl, b1.trans (b2.mono b1.size)⟩
    · rw [hc] at hcl
      have hcq := cut_quote s hc
      have hst := clean_str s hc
      have hce := cut_esc s hc
      have hcn := chars_none s
      clear hc
      have hql : (strOfNums (quoL s)).size ≤ 1000000000 := by
        have h1 : ∀ l : List Int, (l.flatMap quoPartL).length ≤ 5 * l.length := by
          intro l
          induction l with
          | nil => simp
          | cons c r ih =>
            have := quoPartL_len c
            rw [List.flatMap_cons, List.length_append, List.length_cons]
            omega
        have h2 := h1 (chars s)
        have h3 := charsFrom_len s s.size 0
        have h4 : (chars s).length ≤ s.size := h3
        rw [strOf_size]
        unfold quoL
        simp only [List.length_append, List.length_cons, List.length_nil]
        omega
      generalize chars s = xs at *
      have HST := hid_mk hst
      have HCE := hid_mk hce
      have HCN := hid_mk hcn
      clear hst hce hcn
      go_enter Tryd.func3, Tryd.ntmps3
      go_wp2_with (go_at_call 7; fail)
      refine (hcl).mono ?_
      rintro e w1 ⟨rfl, b1⟩
      have hqu := quote_str s (by omega) w1 (tab_below ht b1 h3) (by have := b1.size; omega)
      go_wp2_with (go_at_call 10; fail)
      refine (hqu).mono ?_
      rintro e w2 ⟨rfl, b2⟩
      have B2 := b1.trans (b2.mono b1.size)
      have hc2 := cut_any (strOfNums (quoL s)) w2 hql
      rw [hcq] at hc2
      generalize strOfNums (quoL s) = qs at *
      go_wp2_with (go_at_call 9; fail)
      refine (hc2).mono ?_
      rintro e w3 ⟨o3, rfl, ho3, b3⟩
      have B3 := B2.trans (b3.mono B2.size)
      obtain ⟨g3, cap3, rfl, hg3, hcap3, q0, q1, q2, q3, q4⟩ := cells_one ho3
      simp only [plainTok] at q0 q1 q2 q3 q4
      rw [HST.out] at q1
      have e0 : strT [] = ⟨#[]⟩ := rfl
      rw [e0] at q2
      clear hcl hqu hc2 ho3 hcq e0
      have ht3 := tab_below ht B3 h3
      have h33 : 3 < w3.heap.size := by have := B3.size; omega
      by_cases hz : s.size = 0
      · have hs0 : s = ⟨#[]⟩ := by
          cases s with
          | mk d =>
            have : d.size = 0 := hz
            have : d = #[] := by simpa using this
            subst this
            rfl
        subst hs0
        have hes := escape_str ⟨#[]⟩ (by decide) w3 ht3 h33
        have ee : strOfNums (escL ⟨#[]⟩) = ⟨#[]⟩ := by
          have : escL ⟨#[]⟩ = [] := by decide +kernel
          rw [this]
          rfl
        rw [ee] at hes
        clear ee HCE HCN HST hz hbig hb2
        go_wp2_with (go_at_call 11; fail)
        refine (hes).mono ?_
        rintro e w4 ⟨rfl, b4⟩
        have B4 := B3.trans (b4.mono B3.size)
        have hli := lives_any w4 (tab_below ht B4 h3) (by have := B4.size; omega)
        go_wp2_with (go_at_call 8; fail)
        refine (hli).mono ?_
        rintro e w5 ⟨rfl, b5⟩
        go_wp2
        go_ret
        exact ⟨rfl, B4.trans (b5.mono B4.size)⟩
      · have hne : s ≠ ⟨#[]⟩ := by
          intro e
          rw [e] at hz
          exact hz rfl
        have hne3 : (s.toList == []) = false := by
          rw [Bool.eq_false_iff]
          intro h
          rw [beq_iff_eq, ByteArray.toList_eq] at h
          exact hne (ByteArray.ext (Array.toList_inj.1 h))
        have hne1 : (s == ⟨#[]⟩) = false := by rw [beq_toListBytes, ByteArray.toList_eq ⟨#[]⟩]; exact hne3
        have hcc := HCE.out (fun e => hz (HCN.out.1 e))
        clear hne HCE HCN
        have hes := escape_str s (by omega) w3 ht3 h33
        have hel := escL_len s
        have hz0 : (strOfNums (escL s)).size ≤ 1000000000 := by rw [strOf_size]; omega
        have hz1 : (⟨#[64]⟩ ++ strOfNums (escL s) : ByteArray).size ≤ 1000000000 := by
          rw [ByteArray.size_append, strOf_size]
          have : (⟨#[64]⟩ : ByteArray).size = 1 := rfl
          omega
        have hz2 : (⟨#[35]⟩ ++ strOfNums (escL s) : ByteArray).size ≤ 1000000000 := by
          rw [ByteArray.size_append, strOf_size]
          have : (⟨#[35]⟩ : ByteArray).size = 1 := rfl
          omega
        have hk5 := fun w' => cut_any (strOfNums (escL s)) w' hz0
        have hk6 := fun w' => cut_any (⟨#[64]⟩ ++ strOfNums (escL s)) w' hz1
        have hk7 := fun w' => cut_any (⟨#[35]⟩ ++ strOfNums (escL s)) w' hz2
        rw [hcc.1] at hk5
        rw [hcc.2.1] at hk6
        rw [hcc.2.2] at hk7
        have HK5 := hid_mk hk5
        have HK6 := hid_mk hk6
        have HK7 := hid_mk hk7
        clear hcc hel hz1 hz2 hk5 hk6 hk7
        generalize strOfNums (escL s) = es at *
        go_wp2_with (go_at_call 11; fail)
        refine (hes).mono ?_
        rintro e w4 ⟨rfl, b4⟩
        have B4 := B3.trans (b4.mono B3.size)
        clear q0 q1 q2 q3 q4 hes
        go_wp2_with (go_at_call 9; fail)
        refine (HK5.out w4).mono ?_
        rintro e w5 ⟨o5, rfl, ho5, b5⟩
        have B5 := B4.trans (b5.mono B4.size)
        go_wp2_with (go_at_call 9; fail)
        refine (HK6.out w5).mono ?_
        rintro e w6 ⟨o6, rfl, ho6, b6⟩
        have B6 := B5.trans (b6.mono B5.size)
        go_wp2_with (go_at_call 9; fail)
        refine (HK7.out w6).mono ?_
        rintro e w7 ⟨o7, rfl, ho7, b7⟩
        have B7 := B6.trans (b7.mono B6.size)
        obtain ⟨g5, cap5, rfl, hg5, hcap5, x0, x1, x2, x3, x4⟩ := cells_one ho5
        obtain ⟨g6, cap6, rfl, hg6, hcap6, y0, y1, y2, y3, y4⟩ := cells_one ho6
        obtain ⟨g7, cap7, rfl, hg7, hcap7, z0, z1, z2, z3, z4⟩ := cells_one ho7
        have b57 : Below w5.heap.size w5 w7 := b6.trans (b7.mono b6.size)
        have X0 := (b57.cell (p := ⟨g5, 0, none⟩) hg5).trans x0
        have X1 := (b57.cell (p := ⟨g5, 1, none⟩) hg5).trans x1
        have X2 := (b57.cell (p := ⟨g5, 2, none⟩) hg5).trans x2
        have X3 := (b57.cell (p := ⟨g5, 3, none⟩) hg5).trans x3
        have X4 := (b57.cell (p := ⟨g5, 4, none⟩) hg5).trans x4
        have Y0 := (b7.cell (p := ⟨g6, 0, none⟩) hg6).trans y0
        have Y1 := (b7.cell (p := ⟨g6, 1, none⟩) hg6).trans y1
        have Y2 := (b7.cell (p := ⟨g6, 2, none⟩) hg6).trans y2
        have Y3 := (b7.cell (p := ⟨g6, 3, none⟩) hg6).trans y3
        have Y4 := (b7.cell (p := ⟨g6, 4, none⟩) hg6).trans y4
        clear x0 x1 x2 x3 x4 y0 y1 y2 y3 y4 ho5 ho6 ho7 HK5 HK6 HK7
        simp only [plainTok, mkTok] at X0 X1 X2 X3 X4 Y0 Y1 Y2 Y3 Y4 z0 z1 z2 z3 z4
        have e0 : strT [] = ⟨#[]⟩ := rfl
        rw [HST.out] at X1 Y1 z1
        rw [e0] at X2 Y2 z2
        have hli := lives_any w7 (tab_below ht B7 h3) (by have := B7.size; omega)
        clear e0 HST hg5 hg6 hg7 hz hbig hb2 ht ht3 h33 hg3 hql b57 b7 b6 b5 b4 b3 b2 b1
        go_wp2_with (go_at_call 8; fail)
        refine (hli).mono ?_
        rintro e w8 ⟨rfl, b8⟩
        go_wp2
        go_ret
        exact ⟨rfl, B7.trans (b8.mono B7.size)⟩
end Go.Proofs.YtbfgnfcecfjlnaaDoor
