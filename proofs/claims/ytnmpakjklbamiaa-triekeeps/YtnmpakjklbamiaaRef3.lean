/- The document's Nodes of pairs. -/
import Derived.Test.YtnmpakjklbamiaaRef2
namespace Go.Proofs.Ytnmpakjklbamiaa
open Go.RowKit
set_option maxRecDepth 100000

theorem runs_le (j : Nat) : ∀ (l : List Pr) (last : Int), runs j last l ≤ l.length
  | [], _ => Nat.le_refl _
  | p :: r, last => by
    have := runs_le j r (p.1 / 16 ^ j)
    rw [runs, List.length_cons]
    split <;> omega
/-- The count ahead of the round of so many parts. -/
def cntZ (xs : List Pr) : Nat → Nat
  | 0 => 0
  | 1 => 1
  | 2 => 1 + runs 4 (-1) xs
  | 3 => 1 + runs 4 (-1) xs + runs 3 (-1) xs
  | 4 => 1 + runs 4 (-1) xs + runs 3 (-1) xs + runs 2 (-1) xs
  | _ => nodesZ xs
set_option maxHeartbeats 4000000 in
theorem rnodes_any {W : World} {v : Value} {xs : List Pr} (hp : PsAt W v xs) (hlen : xs.length ≤ 1048576) : Calls Try.prog 35 #[v] W fun e w' => e = .returned (.int .i64 (nodesZ xs)) ∧ Below W.heap.size W w' := by
  obtain ⟨a, cap, rfl, hcap, hmax, hx⟩ := hp
  have HX := hid_mk hx
  clear hx
  have HR4 := hid_mk (runs_le 4 xs (-1))
  have HR3 := hid_mk (runs_le 3 xs (-1))
  have HR2 := hid_mk (runs_le 2 xs (-1))
  have HR1 := hid_mk (runs_le 1 xs (-1))
  go_enter Try.func35, Try.ntmps35
  go_wp2
  go_loopw [3, 4] (fun a3 a4 wr => ∃ q : Nat, 1 ≤ q ∧ q ≤ 5 ∧ a4 = .int .i64 (q : Int) ∧ a3 = .int .i64 (cntZ xs q : Int) ∧ Below W.heap.size W wr) (fun _ a4 _ => 6 - (intOf a4).toNat)
  case atStart => exact ⟨1, by omega, by omega, rfl, rfl, Below.refl _ _⟩
  case round =>
    obtain ⟨q, hq1, hq5, rfl, rfl, hB⟩ := hrel
    have HB := hid_mk hB
    clear hB
    have hcases : q = 5 ∨ (q ≤ 4 ∧ ∃ j, j + q = 5 ∧ cntZ xs (q + 1) = cntZ xs q + runs j (-1) xs ∧ cntZ xs q ≤ 4194304) := by
      have h4 := HR4.out
      have h3 := HR3.out
      have h2 := HR2.out
      have h1 := HR1.out
      have : q = 1 ∨ q = 2 ∨ q = 3 ∨ q = 4 ∨ q = 5 := by omega
      rcases this with rfl | rfl | rfl | rfl | rfl
      · exact .inr ⟨by omega, 4, rfl, rfl, by show 1 ≤ _; omega⟩
      · exact .inr ⟨by omega, 3, rfl, rfl, by show 1 + runs 4 (-1) xs ≤ _; omega⟩
      · exact .inr ⟨by omega, 2, rfl, rfl, by show 1 + runs 4 (-1) xs + runs 3 (-1) xs ≤ _; omega⟩
      · exact .inr ⟨by omega, 1, rfl, rfl, by show 1 + runs 4 (-1) xs + runs 3 (-1) xs + runs 2 (-1) xs ≤ _; omega⟩
      · exact .inl rfl
    rcases hcases with rfl | ⟨hq4, j, hj, hstep, hbd⟩
    · go_wp2
      go_ret
      exact ⟨rfl, HB.out⟩
    · have HST := hid_mk hstep
      generalize cntZ xs q = C0 at *
      clear hstep HR4 HR3 HR2 HR1
      have hqv : q = 1 ∨ q = 2 ∨ q = 3 ∨ q = 4 := by omega
      rcases hqv with rfl | rfl | rfl | rfl
      · obtain rfl : j = 4 := by omega
        go_wp2
        go_loopw [3, 5, 15] (fun a3 a5 a15 wr' => ∃ (i cnt : Nat) (last : Int), i ≤ xs.length ∧ a15 = .int .i64 (i : Int) ∧ a5 = .int .i64 last ∧ a3 = .int .i64 (cnt : Int) ∧ cnt ≤ C0 + i ∧ cnt + runs 4 last (xs.drop i) = C0 + runs 4 (-1) xs ∧ Below W.heap.size W wr') (fun _ _ a15 _ => xs.length + 1 - (intOf a15).toNat)
        case atStart => exact ⟨0, C0, -1, Nat.zero_le _, rfl, rfl, rfl, by omega, rfl, HB.out⟩
        case round =>
          obtain ⟨i, cnt, last, hi, rfl, rfl, rfl, hcl, hcr, hB2⟩ := hrel
          have HB2 := hid_mk hB2
          have HCR := hid_mk hcr
          clear hB2 hcr
          by_cases hlt : i < xs.length
          · obtain ⟨b, off, rfl, hblt, hc⟩ := HX.out (by omega)
            have c0 := (HB2.out.cell (p := ⟨b, off + i * 2, none⟩) hblt).trans (hc i hlt).1
            have c1 := (HB2.out.cell (p := ⟨b, off + i * 2 + 1, none⟩) hblt).trans (hc i hlt).2
            have HD : Hid (runs 4 last (xs.drop i) = (if xs[i].1 / 65536 ≠ last then 1 else 0) + runs 4 (xs[i].1 / 65536) (xs.drop (i + 1))) := by
              show _ = _
              rw [drop_getE hlt, runs, show (16 : Int) ^ 4 = 65536 by decide]
            have hal : ∀ o, Below wr.heap.size wr (wr.alloc o) := fun o => (Below.refl _ wr).alloc (Nat.le_refl _) o
            clear hc HX
            generalize xs[i].1 = m at *
            generalize xs[i].2 = x at *
            by_cases hne : m / 65536 = last
            · have HR : Hid (cnt + runs 4 (m / 65536) (xs.drop (i + 1)) = C0 + runs 4 (-1) xs) := by
                show _ = _
                have h1 := HCR.out
                rw [HD.out, if_neg (fun h => h hne)] at h1
                omega
              have hnb : (m / 65536 != last) = false := by simpa using hne
              go_wp2
              exact ⟨⟨i + 1, cnt, m / 65536, by omega, rfl, congrArg (Value.int .i64) hne.symm, rfl, by omega, HR.out, HB2.out.trans ((hal _).mono HB2.out.size)⟩, by simp only [intOf]; omega⟩
            · have HR : Hid (cnt + 1 + runs 4 (m / 65536) (xs.drop (i + 1)) = C0 + runs 4 (-1) xs) := by
                show _ = _
                have h1 := HCR.out
                rw [HD.out, if_pos hne] at h1
                omega
              have hnb : (m / 65536 != last) = true := by simpa using hne
              go_wp2
              exact ⟨⟨i + 1, cnt + 1, m / 65536, by omega, rfl, rfl, rfl, by omega, HR.out, HB2.out.trans ((hal _).mono HB2.out.size)⟩, by simp only [intOf]; omega⟩
          · obtain rfl : i = xs.length := by omega
            have hfin : cntZ xs (1 + 1) = cnt := by
              have h1 := HCR.out
              rw [List.drop_of_length_le (by omega)] at h1
              rw [HST.out, ← h1]
              rfl
            have HFI := hid_mk hfin
            clear hfin
            go_wp2
            exact ⟨⟨1 + 1, by omega, by omega, rfl, by rw [HFI.out], HB2.out⟩, by simp only [intOf]; omega⟩
      · obtain rfl : j = 3 := by omega
        go_wp2
        go_loopw [3, 5, 15] (fun a3 a5 a15 wr' => ∃ (i cnt : Nat) (last : Int), i ≤ xs.length ∧ a15 = .int .i64 (i : Int) ∧ a5 = .int .i64 last ∧ a3 = .int .i64 (cnt : Int) ∧ cnt ≤ C0 + i ∧ cnt + runs 3 last (xs.drop i) = C0 + runs 3 (-1) xs ∧ Below W.heap.size W wr') (fun _ _ a15 _ => xs.length + 1 - (intOf a15).toNat)
        case atStart => exact ⟨0, C0, -1, Nat.zero_le _, rfl, rfl, rfl, by omega, rfl, HB.out⟩
        case round =>
          obtain ⟨i, cnt, last, hi, rfl, rfl, rfl, hcl, hcr, hB2⟩ := hrel
          have HB2 := hid_mk hB2
          have HCR := hid_mk hcr
          clear hB2 hcr
          by_cases hlt : i < xs.length
          · obtain ⟨b, off, rfl, hblt, hc⟩ := HX.out (by omega)
            have c0 := (HB2.out.cell (p := ⟨b, off + i * 2, none⟩) hblt).trans (hc i hlt).1
            have c1 := (HB2.out.cell (p := ⟨b, off + i * 2 + 1, none⟩) hblt).trans (hc i hlt).2
            have HD : Hid (runs 3 last (xs.drop i) = (if xs[i].1 / 4096 ≠ last then 1 else 0) + runs 3 (xs[i].1 / 4096) (xs.drop (i + 1))) := by
              show _ = _
              rw [drop_getE hlt, runs, show (16 : Int) ^ 3 = 4096 by decide]
            have hal : ∀ o, Below wr.heap.size wr (wr.alloc o) := fun o => (Below.refl _ wr).alloc (Nat.le_refl _) o
            clear hc HX
            generalize xs[i].1 = m at *
            generalize xs[i].2 = x at *
            by_cases hne : m / 4096 = last
            · have HR : Hid (cnt + runs 3 (m / 4096) (xs.drop (i + 1)) = C0 + runs 3 (-1) xs) := by
                show _ = _
                have h1 := HCR.out
                rw [HD.out, if_neg (fun h => h hne)] at h1
                omega
              have hnb : (m / 4096 != last) = false := by simpa using hne
              go_wp2
              exact ⟨⟨i + 1, cnt, m / 4096, by omega, rfl, congrArg (Value.int .i64) hne.symm, rfl, by omega, HR.out, HB2.out.trans ((hal _).mono HB2.out.size)⟩, by simp only [intOf]; omega⟩
            · have HR : Hid (cnt + 1 + runs 3 (m / 4096) (xs.drop (i + 1)) = C0 + runs 3 (-1) xs) := by
                show _ = _
                have h1 := HCR.out
                rw [HD.out, if_pos hne] at h1
                omega
              have hnb : (m / 4096 != last) = true := by simpa using hne
              go_wp2
              exact ⟨⟨i + 1, cnt + 1, m / 4096, by omega, rfl, rfl, rfl, by omega, HR.out, HB2.out.trans ((hal _).mono HB2.out.size)⟩, by simp only [intOf]; omega⟩
          · obtain rfl : i = xs.length := by omega
            have hfin : cntZ xs (2 + 1) = cnt := by
              have h1 := HCR.out
              rw [List.drop_of_length_le (by omega)] at h1
              rw [HST.out, ← h1]
              rfl
            have HFI := hid_mk hfin
            clear hfin
            go_wp2
            exact ⟨⟨2 + 1, by omega, by omega, rfl, by rw [HFI.out], HB2.out⟩, by simp only [intOf]; omega⟩
      · obtain rfl : j = 2 := by omega
        go_wp2
        go_loopw [3, 5, 15] (fun a3 a5 a15 wr' => ∃ (i cnt : Nat) (last : Int), i ≤ xs.length ∧ a15 = .int .i64 (i : Int) ∧ a5 = .int .i64 last ∧ a3 = .int .i64 (cnt : Int) ∧ cnt ≤ C0 + i ∧ cnt + runs 2 last (xs.drop i) = C0 + runs 2 (-1) xs ∧ Below W.heap.size W wr') (fun _ _ a15 _ => xs.length + 1 - (intOf a15).toNat)
        case atStart => exact ⟨0, C0, -1, Nat.zero_le _, rfl, rfl, rfl, by omega, rfl, HB.out⟩
        case round =>
          obtain ⟨i, cnt, last, hi, rfl, rfl, rfl, hcl, hcr, hB2⟩ := hrel
          have HB2 := hid_mk hB2
          have HCR := hid_mk hcr
          clear hB2 hcr
          by_cases hlt : i < xs.length
          · obtain ⟨b, off, rfl, hblt, hc⟩ := HX.out (by omega)
            have c0 := (HB2.out.cell (p := ⟨b, off + i * 2, none⟩) hblt).trans (hc i hlt).1
            have c1 := (HB2.out.cell (p := ⟨b, off + i * 2 + 1, none⟩) hblt).trans (hc i hlt).2
            have HD : Hid (runs 2 last (xs.drop i) = (if xs[i].1 / 256 ≠ last then 1 else 0) + runs 2 (xs[i].1 / 256) (xs.drop (i + 1))) := by
              show _ = _
              rw [drop_getE hlt, runs, show (16 : Int) ^ 2 = 256 by decide]
            have hal : ∀ o, Below wr.heap.size wr (wr.alloc o) := fun o => (Below.refl _ wr).alloc (Nat.le_refl _) o
            clear hc HX
            generalize xs[i].1 = m at *
            generalize xs[i].2 = x at *
            by_cases hne : m / 256 = last
            · have HR : Hid (cnt + runs 2 (m / 256) (xs.drop (i + 1)) = C0 + runs 2 (-1) xs) := by
                show _ = _
                have h1 := HCR.out
                rw [HD.out, if_neg (fun h => h hne)] at h1
                omega
              have hnb : (m / 256 != last) = false := by simpa using hne
              go_wp2
              exact ⟨⟨i + 1, cnt, m / 256, by omega, rfl, congrArg (Value.int .i64) hne.symm, rfl, by omega, HR.out, HB2.out.trans ((hal _).mono HB2.out.size)⟩, by simp only [intOf]; omega⟩
            · have HR : Hid (cnt + 1 + runs 2 (m / 256) (xs.drop (i + 1)) = C0 + runs 2 (-1) xs) := by
                show _ = _
                have h1 := HCR.out
                rw [HD.out, if_pos hne] at h1
                omega
              have hnb : (m / 256 != last) = true := by simpa using hne
              go_wp2
              exact ⟨⟨i + 1, cnt + 1, m / 256, by omega, rfl, rfl, rfl, by omega, HR.out, HB2.out.trans ((hal _).mono HB2.out.size)⟩, by simp only [intOf]; omega⟩
          · obtain rfl : i = xs.length := by omega
            have hfin : cntZ xs (3 + 1) = cnt := by
              have h1 := HCR.out
              rw [List.drop_of_length_le (by omega)] at h1
              rw [HST.out, ← h1]
              rfl
            have HFI := hid_mk hfin
            clear hfin
            go_wp2
            exact ⟨⟨3 + 1, by omega, by omega, rfl, by rw [HFI.out], HB2.out⟩, by simp only [intOf]; omega⟩
      · obtain rfl : j = 1 := by omega
        go_wp2
        go_loopw [3, 5, 15] (fun a3 a5 a15 wr' => ∃ (i cnt : Nat) (last : Int), i ≤ xs.length ∧ a15 = .int .i64 (i : Int) ∧ a5 = .int .i64 last ∧ a3 = .int .i64 (cnt : Int) ∧ cnt ≤ C0 + i ∧ cnt + runs 1 last (xs.drop i) = C0 + runs 1 (-1) xs ∧ Below W.heap.size W wr') (fun _ _ a15 _ => xs.length + 1 - (intOf a15).toNat)
        case atStart => exact ⟨0, C0, -1, Nat.zero_le _, rfl, rfl, rfl, by omega, rfl, HB.out⟩
        case round =>
          obtain ⟨i, cnt, last, hi, rfl, rfl, rfl, hcl, hcr, hB2⟩ := hrel
          have HB2 := hid_mk hB2
          have HCR := hid_mk hcr
          clear hB2 hcr
          by_cases hlt : i < xs.length
          · obtain ⟨b, off, rfl, hblt, hc⟩ := HX.out (by omega)
            have c0 := (HB2.out.cell (p := ⟨b, off + i * 2, none⟩) hblt).trans (hc i hlt).1
            have c1 := (HB2.out.cell (p := ⟨b, off + i * 2 + 1, none⟩) hblt).trans (hc i hlt).2
            have HD : Hid (runs 1 last (xs.drop i) = (if xs[i].1 / 16 ≠ last then 1 else 0) + runs 1 (xs[i].1 / 16) (xs.drop (i + 1))) := by
              show _ = _
              rw [drop_getE hlt, runs, show (16 : Int) ^ 1 = 16 by decide]
            have hal : ∀ o, Below wr.heap.size wr (wr.alloc o) := fun o => (Below.refl _ wr).alloc (Nat.le_refl _) o
            clear hc HX
            generalize xs[i].1 = m at *
            generalize xs[i].2 = x at *
            by_cases hne : m / 16 = last
            · have HR : Hid (cnt + runs 1 (m / 16) (xs.drop (i + 1)) = C0 + runs 1 (-1) xs) := by
                show _ = _
                have h1 := HCR.out
                rw [HD.out, if_neg (fun h => h hne)] at h1
                omega
              have hnb : (m / 16 != last) = false := by simpa using hne
              go_wp2
              exact ⟨⟨i + 1, cnt, m / 16, by omega, rfl, congrArg (Value.int .i64) hne.symm, rfl, by omega, HR.out, HB2.out.trans ((hal _).mono HB2.out.size)⟩, by simp only [intOf]; omega⟩
            · have HR : Hid (cnt + 1 + runs 1 (m / 16) (xs.drop (i + 1)) = C0 + runs 1 (-1) xs) := by
                show _ = _
                have h1 := HCR.out
                rw [HD.out, if_pos hne] at h1
                omega
              have hnb : (m / 16 != last) = true := by simpa using hne
              go_wp2
              exact ⟨⟨i + 1, cnt + 1, m / 16, by omega, rfl, rfl, rfl, by omega, HR.out, HB2.out.trans ((hal _).mono HB2.out.size)⟩, by simp only [intOf]; omega⟩
          · obtain rfl : i = xs.length := by omega
            have hfin : cntZ xs (4 + 1) = cnt := by
              have h1 := HCR.out
              rw [List.drop_of_length_le (by omega)] at h1
              rw [HST.out, ← h1]
              rfl
            have HFI := hid_mk hfin
            clear hfin
            go_wp2
            exact ⟨⟨4 + 1, by omega, by omega, rfl, by rw [HFI.out], HB2.out⟩, by simp only [intOf]; omega⟩

end Go.Proofs.Ytnmpakjklbamiaa
