/- gouachelaw04.NthParses, whatever the values. -/
import Derived.Test.YtpflliophellgaaDoorRParse
import Derived.Test.YtpflliophellgaaDoorCountAny
namespace Go.Proofs.YtpflliophellgaaDoor
open Go.RowKit

set_option maxHeartbeats 2000000 in
set_option maxRecDepth 100000 in
theorem parses_walk (W : World) (v : Value) (ts : List Tk) (hv : ValsAt W v ts) (hre : ∀ t ∈ ts, t.tx.size ≤ 140737488351232 ∧ t.un.size ≤ 140737488351232)
    (hct : Calls Tryd.prog 7 #[v] W fun e w' => (∃ n : Int, e = .returned (.int .i64 n)) ∧ Below W.heap.size W w') :
    Calls Tryd.prog 3 #[v] W fun e w' => e = .returned (.bool true) ∧ Below W.heap.size W w' := by
  have hlv := fun w => lives_any w
  have HV := hid_mk hv
  have HP : Hid (ts.length ≤ 200 → (∀ t ∈ ts, t.tx.size + t.un.size ≤ 200) → ∀ W', Below W.heap.size W W' → Calls Tryd.prog 9 #[v] W' fun e w' => e = .returned (.tuple #[.int .i64 (parseT (gathered ts)).1, .int .i64 (parseT (gathered ts)).2.1, .bool (parseT (gathered ts)).2.2]) ∧ Below W'.heap.size W' w') :=
    fun h1 h2 W' hb => parse_any W' v ts (HV.out.below hb) h1 h2
  have HQ : Hid (ts.length ≤ 200 → (∀ t ∈ ts, t.tx.size + t.un.size ≤ 200) → ∀ W', Below W.heap.size W W' → Calls Tryd.prog 10 #[v] W' fun e w' => e = .returned (.tuple #[.int .i64 (parseT (gathered ts)).1, .int .i64 (parseT (gathered ts)).2.1, .bool (parseT (gathered ts)).2.2]) ∧ Below W'.heap.size W' w') := by
    intro h1 h2 W' hb
    have := rparse_any W' v ts (HV.out.below hb) h1 h2
    rw [parse_same] at this
    exact this
  clear HV
  obtain ⟨a, cap, rfl, hl, hcap, hkid, hc⟩ := hv
  generalize parseT (gathered ts) = pv at *
  obtain ⟨pa, pb, po⟩ := pv
  simp only at HP HQ
  by_cases hn : 200 < ts.length
  · have hn' : (200 : Int) < (ts.length : Int) := by omega
    clear HP HQ hct hc hkid hre
    go_enter Tryd.func3, Tryd.ntmps3
    go_wp2_with (go_at_call 8; fail)
    refine (hlv _).mono ?_
    rintro e w' ⟨rfl, rfl⟩
    go_wp2
    go_ret
    exact ⟨rfl, Below.refl _ _⟩
  have hn' : decide ((200 : Int) < (ts.length : Int)) = false := by simp; omega
  have HP2 := hid_mk (HP.out (by omega))
  have HQ2 := hid_mk (HQ.out (by omega))
  clear HP HQ
  go_enter Tryd.func3, Tryd.ntmps3
  go_wp2_with (go_at_call 7; fail)
  refine (hct).mono ?_
  rintro e w1 ⟨⟨n, rfl⟩, b1⟩
  clear hct
  by_cases h5 : (500 : Int) < n
  · clear HP2 HQ2 hc hkid hre
    go_wp2_with (go_at_call 8; fail)
    refine (hlv _).mono ?_
    rintro e w' ⟨rfl, rfl⟩
    go_wp2
    go_ret
    exact ⟨rfl, b1⟩
  have h5' : decide ((500 : Int) < n) = false := by simp; omega
  go_wp2
  go_loopw [22] (fun a22 wr => ∃ k : Nat, a22 = .int .i64 k ∧ k ≤ ts.length ∧ (∀ i (h : i < ts.length), i < k → (ts[i]'h).tx.size + (ts[i]'h).un.size ≤ 200) ∧ Below W.heap.size W wr) (fun a22 _ => ts.length + 1 - (intOf a22).toNat)
  case atStart => exact ⟨0, rfl, Nat.zero_le _, fun i h h0 => absurd h0 (by omega), b1⟩
  case round =>
    obtain ⟨k, rfl, hk, hsm, hbr⟩ := hrel
    have HSM := hid_mk hsm
    clear hsm
    by_cases hlt : k < ts.length
    · obtain ⟨b, off, rfl, hbw, hcell⟩ := hc (by omega)
      have hcc : ∀ j y, (tkCells (ts[k]'hlt))[j]? = some y → wr.cell? ⟨b, off + k * 6 + j, none⟩ = some y := fun j y hy => (hbr.cell (p := ⟨b, off + k * 6 + j, none⟩) hbw).trans (hcell k hlt j y hy)
      have hmem : ts[k]'hlt ∈ ts := List.getElem_mem hlt
      have hs := hre _ hmem
      have hkd := hkid _ hmem
      have HNX : Hid ((ts[k]'hlt).tx.size + (ts[k]'hlt).un.size ≤ 200 → ∀ i (h : i < ts.length), i < k + 1 → (ts[i]'h).tx.size + (ts[i]'h).un.size ≤ 200) := by
        intro h2 i h hi
        by_cases he : i = k
        · subst he
          exact h2
        · exact HSM.out i h (by omega)
      generalize ts[k]'hlt = t at *
      obtain ⟨kk, tx, un, wh, fl, kid⟩ := t
      have c0 := hcc 0 _ rfl
      have c1 := hcc 1 _ rfl
      have c2 := hcc 2 _ rfl
      have c3 := hcc 3 _ rfl
      have c4 := hcc 4 _ rfl
      have c5 := hcc 5 _ rfl
      simp only [Nat.add_zero] at c0 c1 c2 c3 c4 c5 hs hkd HNX
      obtain ⟨hs1, hs2⟩ := hs
      have hal : Below W.heap.size W (wr.alloc (.cells #[.int .i64 kk, .string tx, .string un, .bool wh, .bool fl, kid] 28)) := hbr.trans (((Below.refl _ wr).alloc (Nat.le_refl _) _).mono hbr.size)
      clear hcc hc hcell HSM HP2 HQ2 hmem hre
      by_cases hbig : (200 : Int) < (tx.size : Int) + (un.size : Int)
      · clear HNX
        rcases hkd with rfl | ⟨a', l', c', rfl⟩
        all_goals
          go_wp2_with (go_at_call 8; fail)
          refine (hlv _).mono ?_
          rintro e w' ⟨rfl, rfl⟩
          go_wp2
          go_ret
          exact ⟨rfl, hal⟩
      · have HN2 := hid_mk (HNX.out (by omega))
        clear HNX
        rcases hkd with rfl | ⟨a', l', c', rfl⟩
        all_goals
          go_wp2
          go_roundw
          case rel => exact ⟨k + 1, by go_num, by omega, HN2.out, hal⟩
          case measure => simp [intOf]; omega
    · have hsz : ∀ t ∈ ts, t.tx.size + t.un.size ≤ 200 := by
        intro t ht
        obtain ⟨i, hi, rfl⟩ := List.getElem_of_mem ht
        exact HSM.out i hi (by omega)
      have HP3 := hid_mk (HP2.out hsz)
      have HQ3 := hid_mk (HQ2.out hsz)
      have hp := HP3.out _ hbr
      clear HP2 HQ2 hsz HSM hre hc hkid
      go_wp2_with (go_at_call 9; fail)
      refine (hp).mono ?_
      rintro e w2 ⟨rfl, b2⟩
      have B2 := hbr.trans (b2.mono hbr.size)
      have hq := HQ3.out _ B2
      go_wp2_with (go_at_call 10; fail)
      refine (hq).mono ?_
      rintro e w3 ⟨rfl, b3⟩
      have B3 := B2.trans (b3.mono B2.size)
      clear hp hq HP3 HQ3 b2 b3
      go_wp2_with (go_at_call 8; fail)
      refine (hlv _).mono ?_
      rintro e w' ⟨rfl, rfl⟩
      go_wp2
      go_ret
      exact ⟨rfl, B3⟩

end Go.Proofs.YtpflliophellgaaDoor
