/- nth.written, whatever the values: the walk. -/
import Derived.Test.YtpflliophellgaaGreatDoorNWritten
namespace Go.Proofs.YtpflliophellgaaGreatDoor.N
open Go.RowKit

def wrt (g : Option (List Int)) : ByteArray × Bool := match g with
  | some p => (strOfNums p, true)
  | none => (⟨#[]⟩, false)
theorem ret_sb {a c : ByteArray} {x y : Bool} (h : (a, x) = (c, y)) : Ending.returned (.tuple #[.string a, .bool x]) = .returned (.tuple #[.string c, .bool y]) := by cases h; rfl
theorem told_len {t : Tk} {p : List Int} (h : toldT t = some p) (hs : t.tx.size + t.un.size ≤ 200) : p.length ≤ 201 := by
  unfold toldT toldZ at h
  have b1 := bytesL_size t.tx
  have b2 := bytesL_size t.un
  repeat' split at h
  all_goals first | (cases h; done) | (cases h; show 1 ≤ 201; omega) | (cases h; simp; omega) | (cases h; rw [List.length_append]; omega) | (cases h; omega)

theorem gathered_step {l : List Tk} {t : Tk} {part p : List Int} (hg : gathered l = some part) (ht : toldT t = some p) : gathered (l ++ [t]) = some (part ++ p) := by
  rw [gathered_snoc, hg, ht]
set_option maxHeartbeats 2000000 in
set_option maxRecDepth 100000 in
theorem written_any (W : World) (v : Value) (ts : List Tk) (hv : ValsAt W v ts) (hn : ts.length ≤ 200) (hsz : ∀ t ∈ ts, t.tx.size + t.un.size ≤ 200) :
    Calls Tryz.prog 12 #[v] W fun e w' => e = .returned (.tuple #[.string (wrt (gathered ts)).1, .bool (wrt (gathered ts)).2]) ∧ Below W.heap.size W w' := by
  obtain ⟨a, cap, rfl, hl, hcap, hkid, hc⟩ := hv
  have hw0 := wr_new W
  have hal : Below W.heap.size W (W.alloc (.cells #[.pointer none, .slice none 0 0] 59)) := (Below.refl _ W).alloc (Nat.le_refl _) _
  go_enter Tryz.func12, Tryz.ntmps12
  go_wp2
  go_loopw [11] (fun a11 wr => ∃ (k : Nat) (part : List Int), a11 = .int .i64 k ∧ k ≤ ts.length ∧ Wr W.heap.size part wr ∧ gathered (ts.take k) = some part ∧ part.length ≤ 201 * k ∧ Below W.heap.size W wr) (fun a11 _ => ts.length + 1 - (intOf a11).toNat)
  case atStart => exact ⟨0, [], rfl, Nat.zero_le _, hw0, rfl, by simp, hal⟩
  case round =>
    obtain ⟨k, part, rfl, hk, hwr, hg, hpl, hbr⟩ := hrel
    have HG := hid_mk hg
    clear hg
    by_cases hlt : k < ts.length
    · obtain ⟨b, off, rfl, hbw, hcell⟩ := hc (by omega)
      have hcc : ∀ j y, (tkCells (ts[k]'hlt))[j]? = some y → wr.cell? ⟨b, off + k * 6 + j, none⟩ = some y := fun j y hy => (hbr.cell (p := ⟨b, off + k * 6 + j, none⟩) hbw).trans (hcell k hlt j y hy)
      have hmem : ts[k]'hlt ∈ ts := List.getElem_mem hlt
      have hs := hsz _ hmem
      have hkd := hkid _ hmem
      have HTK : Hid (ts.take (k + 1) = ts.take k ++ [ts[k]'hlt]) := by
        show _ = _
        rw [List.take_add_one]
        simp [hlt]
      have HNO : Hid (toldT (ts[k]'hlt) = none → gathered ts = none) := fun h => gathered_none ts _ hmem h
      have HLEN : Hid (∀ p, toldT (ts[k]'hlt) = some p → p.length ≤ 201) := fun p h => told_len h hs
      generalize ts[k]'hlt = t at *
      obtain ⟨kk, tx, un, wh, fl, kid⟩ := t
      have c0 := hcc 0 _ rfl
      have c1 := hcc 1 _ rfl
      have c2 := hcc 2 _ rfl
      have c3 := hcc 3 _ rfl
      have c4 := hcc 4 _ rfl
      have c5 := hcc 5 _ rfl
      simp only [Nat.add_zero] at c0 c1 c2 c3 c4 c5 hs hkd
      have hal2 : Below wr.heap.size wr (wr.alloc (.cells #[.int .i64 kk, .string tx, .string un, .bool wh, .bool fl, kid] 66)) := (Below.refl _ wr).alloc (Nat.le_refl _) _
      have hcall := told_any W.heap.size part kk tx un wh fl _ (wr_below hwr hal2) (by omega)
      have hltb := wr_lt hwr
      have hB2 : Below W.heap.size W (wr.alloc (.cells #[.int .i64 kk, .string tx, .string un, .bool wh, .bool fl, kid] 66)) := hbr.trans (hal2.mono hbr.size)
      clear hcc hcell hc hmem hkid hsz hwr
      rcases hkd with rfl | ⟨a', l', c', rfl⟩
      all_goals
        go_wp2_with (go_at_call 38; fail)
        refine (hcall).mono ?_
        rintro e w3 ⟨ok, p3, rfl, hw3, b3, hor⟩
        have B3 := hB2.trans b3
        rcases hor with ⟨rfl, ht⟩ | ⟨rfl, ht⟩
        · have HT := hid_mk ht
          clear ht
          go_wp2
          go_roundw
          case rel =>
            refine ⟨k + 1, part ++ p3, by go_num, by omega, hw3, ?_, ?_, B3⟩
            · rw [HTK.out]
              exact gathered_step HG.out HT.out
            · have := HLEN.out p3 HT.out
              rw [List.length_append]
              omega
          case measure => simp [intOf]; omega
        · have HR : Hid (gathered ts = none) := HNO.out ht
          clear ht
          go_wp2
          go_ret2
          exact ⟨ret_sb (by rw [HR.out]; rfl), B3⟩
    · have HE : Hid (gathered ts = some part) := by
        show _ = _
        rw [← HG.out, List.take_of_length_le (by omega)]
      have hst := wr_string W.heap.size part wr hwr
      generalize hps : strOfNums part = PS at *
      have HPS := hid_mk hps
      clear hps
      go_wp2_with (go_at_call 39; fail)
      refine (hst).mono ?_
      rintro e w3 ⟨rfl, b3⟩
      go_wp2
      go_ret2
      exact ⟨ret_sb (by rw [HE.out, ← HPS.out]; rfl), hbr.trans b3⟩

end Go.Proofs.YtpflliophellgaaGreatDoor.N
