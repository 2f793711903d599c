/- nth.numberAhead, whatever the text. -/
import Derived.Test.YtpflliophellgaaGreatDoorNAhead
import Derived.Lib.RuneCount
import Derived.OwnWalk
namespace Go.Proofs.YtpflliophellgaaGreatDoor.N
open Go.RowKit

theorem below_drewN3 (B : Nat) (w : World) (n : Nat) : Below B w (w.drewN n) := ⟨rfl, rfl, rfl, Nat.le_refl _, fun _ _ => rfl⟩
theorem ret3 {n m : Int} {a c : ByteArray} {x y : Bool} (h1 : n = m) (h2 : a = c) (h3 : x = y) : Ending.returned (.tuple #[.int .i64 n, .string a, .bool x]) = .returned (.tuple #[.int .i64 m, .string c, .bool y]) := by rw [h1, h2, h3]
theorem satZ_min (n c : Int) : satZ n c = min (n * 10 + (c - 48)) 1000000 := by
  unfold satZ
  split <;> omega
theorem extract_all (s : ByteArray) : s.extract s.size s.size = ⟨#[]⟩ := empty_of (by simp)

set_option maxHeartbeats 1000000 in
set_option maxRecDepth 100000 in
theorem numberAhead_any (s : ByteArray) (hs : s.size ≤ 1000000) (w : World) :
    Calls Tryz.prog 48 #[.string s] w fun e w' => e = .returned (.tuple #[.int .i64 (satL ((bytesL s).take (digN (bytesL s)))), .string (s.extract (digN (bytesL s)) s.size), .bool (decide (0 < digN (bytesL s)))]) ∧ Below w.heap.size w w' := by
  have HDEC := hid_mk (fun p hp => dec_byte s p hp)
  have HSZ := hid_mk (bytesL_size s)
  have hsne : s.size = 0 ∨ (s == ⟨#[]⟩) = false ∧ (s.toList == []) = false := by
    by_cases h : s.size = 0
    · exact .inl h
    · right
      have h3 : (s.toList == []) = false := by
        rw [Bool.eq_false_iff]
        intro h2
        rw [beq_iff_eq, ByteArray.toList_eq] at h2
        have h4 := congrArg List.length h2
        exact h (by simpa using h4)
      exact ⟨by rw [beq_toListBytes, ByteArray.toList_eq ⟨#[]⟩]; exact h3, h3⟩
  have HNE := hid_mk hsne
  clear hsne
  generalize hds : bytesL s = ds at *
  go_enter Tryz.func48, Tryz.ntmps48
  go_wp2
  go_loopw [5] (fun a5 wr => ∃ p : Nat, wr.heap[w.heap.size]? = some (.stringIter s p) ∧ Below w.heap.size w wr ∧ a5 = .int .i64 (satL (ds.take p)) ∧ p ≤ ds.length ∧ Dig (ds.take p)) (fun _ wr => s.size - wr.iterPos w.heap.size)
  case atStart => exact ⟨0, World.iter_heap w s 0, (Below.refl _ w).alloc (Nat.le_refl _) _, rfl, Nat.zero_le _, fun c hc => by simp at hc⟩
  case round =>
    obtain ⟨p, hit, hbw, rfl, hp, hdig⟩ := hrel
    have hsb := satL_bd (ds.take p) hdig
    have HDG := hid_mk hdig
    have HD := hid_mk (fun h => digN_at ds p hdig hp h)
    clear hdig hds
    by_cases hlt : p < ds.length
    · have hps : p < s.size := by rw [← HSZ.out]; exact hlt
      have hnx : ∀ ty, (Instr.next (.pointer (some ⟨w.heap.size, 0, none⟩)) true ty).run Tryz.prog wr = _ := fun ty => Lib.run_next_any_at wr w.heap.size s p ty hit hps
      have hit3 := Lib.iterAt_heap wr w.heap.size s p (p + (Utf8.decode s p).2) hit
      have hbw3 := Lib.below_iterAt hbw (k := w.heap.size) (Nat.le_refl _) s (p + (Utf8.decode s p).2)
      have HTK : Hid (ds.take (p + 1) = ds.take p ++ [ds.getD p 0]) := by
        show _ = _
        rw [List.take_add_one]
        simp [List.getD, hlt]
      rcases HDEC.out p hps with ⟨hc1, hc2, hdc, hwd⟩ | ⟨hnd, hdz⟩
      · rw [hwd] at hnx hit3 hbw3
        rw [hdc] at hnx
        have HS : Hid (satL (ds.take (p + 1)) = satZ (satL (ds.take p)) (ds.getD p 0)) := by
          show satL (ds.take (p + 1)) = _
          rw [HTK.out, satL_snoc]
        have HD2 : Hid (Dig (ds.take (p + 1))) := by
          show Dig _
          rw [HTK.out]
          intro c hc
          rcases List.mem_append.1 hc with hc | hc
          · exact HDG.out c hc
          · rw [List.mem_singleton.1 hc]
            exact ⟨hc1, hc2⟩
        have hdg := digit_any (ds.getD p 0) (wr.iterAt w.heap.size s (p + 1))
        rw [digit_yes ⟨hc1, hc2⟩] at hdg
        generalize ds.getD p 0 = c at *
        generalize wr.iterAt w.heap.size s (p + 1) = W3 at *
        have hm : s.size - W3.iterPos w.heap.size < s.size - wr.iterPos w.heap.size := by
          simp only [World.iterPos, hit3, hit]
          omega
        clear hdc hwd hit hbw
        generalize satL (ds.take p) = sn at *
        go_wp2_with (go_at_call 80; fail)
        refine (hdg).mono ?_
        rintro e w' ⟨rfl, rfl⟩
        go_wp2
        go_roundw
        case rel => exact ⟨p + 1, hit3, hbw3, congrArg (Value.int .i64) ((satZ_min _ _).symm.trans HS.out.symm), by omega, HD2.out⟩
        case measure => exact hm
      · have HP : Hid (digN ds = p) := HD.out (.inr (by
          cases h : digitZ (ds.getD p 0)
          · rfl
          · unfold digitZ at h
            simp at h
            exact absurd h (by simpa using hnd)))
        have hdg := digit_any (((Utf8.decode s p).1 : Nat) : Int) (wr.iterAt w.heap.size s (p + (Utf8.decode s p).2))
        rw [hdz] at hdg
        generalize ((Utf8.decode s p).1 : Nat) = cd at *
        generalize wr.iterAt w.heap.size s (p + (Utf8.decode s p).2) = W3 at *
        clear hdz hnd hit hbw
        have HSN : Hid (satL (ds.take (digN ds)) = satL (ds.take p)) := by show _ = _; rw [HP.out]
        generalize satL (ds.take p) = sn at *
        go_wp2_with (go_at_call 80; fail)
        refine (hdg).mono ?_
        rintro e w' ⟨rfl, rfl⟩
        go_wp2
        go_quiet (fail)
        go_wp2
        go_ret3
        exact ⟨ret3 HSN.out.symm (by rw [HP.out]) (by rw [HP.out]; first | done | simp), hbw3.trans (below_drewN3 _ _ _)⟩
    · have hps : ¬ p < s.size := by rw [← HSZ.out]; exact hlt
      have hnx : ∀ ty, (Instr.next (.pointer (some ⟨w.heap.size, 0, none⟩)) true ty).run Tryz.prog wr = _ := fun ty => Lib.run_next_end_at wr w.heap.size s p ty hit hps
      have HP : Hid (digN ds = p) := HD.out (.inl (by omega))
      have HPS : Hid (p = s.size) := by show _ = _; rw [← HSZ.out]; omega
      have HSN : Hid (satL (ds.take (digN ds)) = satL (ds.take p)) := by show _ = _; rw [HP.out]
      generalize satL (ds.take p) = sn at *
      rcases HNE.out with h0 | ⟨n1, n2⟩
      · have e0 := empty_of h0
        subst e0
        go_wp2
        go_ret3
        exact ⟨ret3 HSN.out.symm (by rw [HP.out, HPS.out]; exact (extract_all ⟨#[]⟩).symm) (by rw [HP.out, HPS.out]; rfl), hbw⟩
      · have hp0 : 0 < p := by
          by_cases h : s.size = 0
          · have e0 := empty_of h
            subst e0
            exact absurd n2 (by rw [ByteArray.toList_eq]; decide)
          · rw [HPS.out]
            omega
        go_wp2
        go_ret3
        exact ⟨ret3 HSN.out.symm (by rw [HP.out, HPS.out]; exact (extract_all s).symm) (by rw [HP.out]; simp [hp0]), hbw⟩

end Go.Proofs.YtpflliophellgaaGreatDoor.N
