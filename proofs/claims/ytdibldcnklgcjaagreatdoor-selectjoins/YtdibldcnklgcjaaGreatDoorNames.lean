/- The cutter's way over a name: an Ident, a Function or a URL. -/
import Derived.Test.YtdibldcnklgcjaaGreatDoorNumber
import Derived.Test.YtdibldcnklgcjaaGreatDoorFold
namespace Go.Proofs.YtdibldcnklgcjaaGreatDoor
open Go.RowKit
set_option maxRecDepth 100000

section
variable {w w1 w2 : World} {b : Nat} {v out : Value} {xs l l' : List Int} {ts : List Tok}
theorem blanksR_not (h : blankZ (hd l 0) = false) : blanksR l = l := by
  cases l with
  | nil => rfl
  | cons c t => rw [blanksR, if_neg]; simpa [hd] using h
theorem blanksR_yes {k : Nat} (h : blankZ (hd l k) = true) : k < l.length ∧ blanksR (l.drop k) = blanksR (l.drop (k + 1)) := by
  rcases Nat.lt_or_ge k l.length with h1 | h1
  · refine ⟨h1, ?_⟩
    rw [List.drop_eq_getElem_cons h1, blanksR, if_pos]
    have : hd l k = l[k] := by simp [hd, List.getD, h1]
    rw [← this]; exact h
  · have : hd l k = -1 := by simp [hd, List.getD, h1]
    rw [this] at h
    exact absurd h (by decide)

set_option maxHeartbeats 1000000 in
theorem qb_r (h : At w b v out xs l) (fx : Fine xs) (n : Nat) :
    Calls Tryz.prog 60 #[.pointer (some ⟨b, 0, none⟩)] (w.drewN n) fun e w' => e = .returned (.bool (qbB l)) ∧ ∃ m, w' = w.drewN m := by
  have hll : l.length ≤ 1000000000 := by
    have := (at_suf h).length_le
    have := fx.1
    omega
  go_enter Tryz.func60, Tryz.ntmps60
  go_wp2
  go_loopw [3] (fun i wr => ∃ (k m : Nat), i = .int .i64 k ∧ wr = w.drewN m ∧ k ≤ l.length ∧ blanksR (l.drop k) = blanksR l) (fun i _ => l.length + 1 - (intOf i).toNat)
  case atStart => exact ⟨0, n, rfl, rfl, Nat.zero_le _, rfl⟩
  case round =>
    obtain ⟨k, m, rfl, rfl, hk, heq⟩ := hrel
    have HQ : Hid (blanksR (l.drop k) = blanksR l) := heq
    clear heq
    have ha := fun m => ahead_r h fx k k rfl (by omega) m
    cases hb : blankZ (hd l k)
    · have HR : Hid (qbB l = (hd l k == 34 || hd l k == 39)) := by
        have h2 : blankZ (hd (l.drop k) 0) = false := by rw [hd_drop]; exact hb
        show qbB l = _
        unfold qbB
        rw [← HQ.out, blanksR_not h2, hd_drop]
        rfl
      generalize hd l k = c at *
      by_cases h34 : c = 34
      · subst h34
        go_wp2_with (go_at_call 46; fail)
        refine (ha _).mono ?_
        rintro e w' ⟨rfl, m2, rfl⟩
        go_wp2_with (go_at_call 45; fail)
        refine (blank_any _ _).mono ?_
        rintro e w' ⟨rfl, rfl⟩
        go_wp2_with (go_at_call 46; fail)
        refine (ha _).mono ?_
        rintro e w' ⟨rfl, m3, rfl⟩
        go_wp2
        go_ret
        exact ⟨ret_bool (by rw [HR.out]; simp), _, rfl⟩
      · have e34 : (c == 34) = false := by simpa using h34
        go_wp2_with (go_at_call 46; fail)
        refine (ha _).mono ?_
        rintro e w' ⟨rfl, m2, rfl⟩
        go_wp2_with (go_at_call 45; fail)
        refine (blank_any _ _).mono ?_
        rintro e w' ⟨rfl, rfl⟩
        go_wp2_with (go_at_call 46; fail)
        refine (ha _).mono ?_
        rintro e w' ⟨rfl, m3, rfl⟩
        go_wp2_with (go_at_call 46; fail)
        refine (ha _).mono ?_
        rintro e w' ⟨rfl, m4, rfl⟩
        go_wp2
        go_ret
        exact ⟨ret_bool (by rw [HR.out, e34]; simp), _, rfl⟩
    · obtain ⟨hlt, hst⟩ := blanksR_yes hb
      have HS : Hid (blanksR (l.drop k) = blanksR (l.drop (k + 1))) := hst
      clear hst
      generalize hd l k = c at *
      go_wp2_with (go_at_call 46; fail)
      refine (ha _).mono ?_
      rintro e w' ⟨rfl, m2, rfl⟩
      go_wp2_with (go_at_call 45; fail)
      refine (blank_any _ _).mono ?_
      rintro e w' ⟨rfl, rfl⟩
      go_wp2
      go_roundw
      case rel => exact ⟨k + 1, m2, by go_num, rfl, by omega, by rw [← HS.out]; exact HQ.out⟩
      case measure => simp [intOf]; omega

theorem fold_nums (l : List Int) (h : ∀ n ∈ l, 0 ≤ n ∧ n < 256) : foldS (strOfNums l) = strOfNums (l.map foldI) := by
  apply ByteArray.ext
  show ((l.map _).toArray.map foldB) = ((l.map foldI).map _).toArray
  simp only [List.map_toArray, List.map_map]
  congr 1
  apply List.map_congr_left
  intro n hn
  have hb := h n hn
  show foldB (UInt8.ofNat n.toNat) = UInt8.ofNat (foldI n).toNat
  apply UInt8.toNat_inj.1
  rw [foldB_nat]
  have e1 : (UInt8.ofNat n.toNat).toNat = n.toNat := by simp only [UInt8.toNat_ofNat']; omega
  rw [e1]
  unfold foldN foldI
  split
  · rename_i h1
    rw [if_pos (by omega)]
    simp only [UInt8.toNat_ofNat']
    omega
  · rename_i h1
    rw [if_neg (by omega)]
    simp only [UInt8.toNat_ofNat']
    omega
theorem nums_inj {a c : List Int} (ha : ∀ n ∈ a, 0 ≤ n ∧ n < 256) (hc : ∀ n ∈ c, 0 ≤ n ∧ n < 256) (h : strOfNums a = strOfNums c) : a = c := by
  have h1 : (a.map fun n => UInt8.ofNat n.toNat) = (c.map fun n => UInt8.ofNat n.toNat) := by
    have := congrArg ByteArray.data h
    simpa [strOfNums] using this
  have h2 := congrArg (List.map fun x : UInt8 => (x.toNat : Int)) h1
  rw [List.map_map, List.map_map] at h2
  have e : ∀ l : List Int, (∀ n ∈ l, 0 ≤ n ∧ n < 256) → l.map ((fun x : UInt8 => (x.toNat : Int)) ∘ fun n => UInt8.ofNat n.toNat) = l := by
    intro l hl
    conv => rhs; rw [← List.map_id l]
    apply List.map_congr_left
    intro n hn
    exact byte_back (hl n hn)
  rw [e a ha, e c hc] at h2
  exact h2
theorem url_name (t : List Int) : (foldS (strOfNums (bytesZ t)) = ⟨#[117, 114, 108]⟩) ↔ urlNm t = true := by
  have hb := bytesZ_byte t
  have e3 : (⟨#[117, 114, 108]⟩ : ByteArray) = strOfNums [117, 114, 108] := rfl
  rw [fold_nums _ hb, e3]
  unfold urlNm
  rw [beq_iff_eq]
  constructor
  · intro h
    refine nums_inj ?_ (by decide) h
    intro n hn
    obtain ⟨m, hm, rfl⟩ := List.mem_map.1 hn
    have := hb m hm
    unfold foldI
    split <;> omega
  · intro h
    rw [h]
theorem nameT_len : ∀ (l : List Int) (k : Nat), (nameT l k).length ≤ l.length
  | [], _ => by simp [nameT]
  | _ :: t, k + 1 => by
    rw [nameT]
    have := nameT_len t k
    simp only [List.length_cons]
    omega
  | c :: t, 0 => by
    rw [nameT]
    split
    · have := nameT_len t 0
      simp only [List.length_cons]
      omega
    · split
      · have := nameT_len t (escT t).2
        simp only [List.length_cons]
        omega
      · simp

set_option maxHeartbeats 1000000 in
theorem word_no (hs : St w b v out xs l ts) (fx : Fine xs) (hc : nameB l = false) :
    Calls Tryz.prog 25 #[.pointer (some ⟨b, 0, none⟩)] w fun e w' => e = .returned (.bool false) ∧ St w' b v out xs l ts ∧ Below b w w' := by
  have ha := nameB_w hs.1 fx
  rw [hc] at ha
  go_enter Tryz.func25, Tryz.ntmps25
  go_wp2_with (go_at_call 55; fail)
  refine (ha).mono ?_
  rintro e w' ⟨rfl, m, rfl⟩
  go_wp2
  go_ret
  exact ⟨rfl, st_drew hs _⟩

set_option maxHeartbeats 4000000 in
set_option maxRecDepth 100000 in
theorem word_yes (hs : St w b v out xs l ts) (fx : Fine xs) (hts : ts.length ≤ 1000000000) (hc : nameB l = true) :
    Calls Tryz.prog 25 #[.pointer (some ⟨b, 0, none⟩)] w fun e w' => e = .returned (.bool true) ∧ ∃ out', St w' b v out' xs ((wordZ l).2) (ts ++ [(wordZ l).1]) ∧ Below b w w' := by
  have ha := nameB_w hs.1 fx
  rw [hc] at ha
  go_enter Tryz.func25, Tryz.ntmps25
  go_wp2_with (go_at_call 55; fail)
  refine (ha).mono ?_
  rintro e w' ⟨rfl, m, rfl⟩
  have hnn := name_any (at_drew hs.1 m) fx
  go_wp2_with (go_at_call 56; fail)
  refine (hnn).mono ?_
  rintro e w2 ⟨rfl, h2, k2'⟩
  have k2 := (Kept.drewN b w m).trans k2'
  obtain ⟨s2, q2⟩ := st_move hs k2 h2
  have ha2 := ahead_w h2 fx 0 0 rfl (by omega)
  go_wp2_with (go_at_call 46; fail)
  have HT : Hid (wordZ l = if hd (nameR l 0) 0 = 40 then (if urlNm (nameT l 0) && !qbB ((nameR l 0).drop 1) then urlZ ((nameR l 0).drop 1) else (plainTok 2 (nameT l 0), (nameR l 0).drop 1)) else (plainTok 1 (nameT l 0), nameR l 0)) := rfl
  have hsz : (strOfNums (bytesZ (nameT l 0))).size ≤ 1000000000000 := by
    rw [strOf_size]
    have h1 := bytesZ_len (nameT l 0)
    have h2 := nameT_len l 0
    have h3 := (at_suf hs.1).length_le
    have h4 := fx.1
    omega
  have hurl := url_name (nameT l 0)
  have hal : Below w2.heap.size w2 (w2.alloc (.cells #[.int .i64 1, .string (strOfNums (bytesZ (nameT l 0))), .string ⟨#[]⟩, .bool false, .bool false] 69)) := (Below.refl _ w2).alloc (Nat.le_refl _) _
  have htb : (w2.alloc (.cells #[.int .i64 1, .string (strOfNums (bytesZ (nameT l 0))), .string ⟨#[]⟩, .bool false, .bool false] 69)).heap[w2.heap.size]? = some (.cells #[.int .i64 1, .string (strOfNums (bytesZ (nameT l 0))), .string ⟨#[]⟩, .bool false, .bool false] 69 (0, 0)) := heap_alloc_new w2 _
  obtain ⟨s3, q3⟩ := st_below s2 hal
  have hblt := at_lt h2
  clear hal ha2 hnn
  generalize (w2.alloc (.cells #[.int .i64 1, .string (strOfNums (bytesZ (nameT l 0))), .string ⟨#[]⟩, .bool false, .bool false] 69)) = w3 at *
  obtain ⟨f0, f1, f2, f3, f4, ff⟩ := cells5 htb
  have HTB : Hid (w3.heap[w2.heap.size]? = some (.cells #[.int .i64 1, .string (strOfNums (bytesZ (nameT l 0))), .string ⟨#[]⟩, .bool false, .bool false] 69 (0, 0))) := htb
  clear htb ff
  have hlt2 : w2.heap.size < w3.heap.size := (Array.getElem?_eq_some_iff.1 HTB.out).1
  have ha3 := ahead_w s3.1 fx 0 0 rfl (by omega)
  by_cases h40 : hd (nameR l 0) 0 = 40
  · obtain ⟨c5, t5, hct⟩ : ∃ c t, nameR l 0 = c :: t := by
      cases hq : nameR l 0 with
      | nil => rw [hq] at h40; exact absurd h40 (by decide)
      | cons c t => exact ⟨c, t, rfl⟩
    have HZ : Hid (wordZ l = if urlNm (nameT l 0) && !qbB t5 then urlZ t5 else (plainTok 2 (nameT l 0), t5)) := by
      have := HT.out
      rw [if_pos h40, hct] at this
      exact this
    have hn5 := fun m => next_r s3.1 fx c5 t5 hct m
    rw [h40] at ha3
    clear HT hct
    refine ha3.mono ?_
    rintro e w' ⟨rfl, m4, rfl⟩
    go_wp2_with (go_at_call 49; fail)
    refine (hn5 _).mono ?_
    rintro e w6 ⟨rfl, h6, k6⟩
    obtain ⟨s6, q6⟩ := st_move s3 k6 h6
    have htb6 := (k6.block w2.heap.size hlt2 (by omega)).trans HTB.out
    obtain ⟨g0, g1, g2, g3, g4, gg⟩ := cells5 htb6
    have hfo := fold_any (strOfNums (bytesZ (nameT l 0))) w6 hsz
    clear gg f0 f1 f2 f3 f4
    cases hun : urlNm (nameT l 0)
    · have HZ2 : Hid (wordZ l = (plainTok 2 (nameT l 0), t5)) := by
        have := HZ.out
        rw [hun, Bool.false_and, if_neg (by simp)] at this
        exact this
      have hne : foldS (strOfNums (bytesZ (nameT l 0))) ≠ ⟨#[117, 114, 108]⟩ := by
        intro e
        rw [hurl.1 e] at hun
        cases hun
      generalize foldS (strOfNums (bytesZ (nameT l 0))) = fs at *
      have hne3 : (fs.toList == [117, 114, 108]) = false := by
        rw [Bool.eq_false_iff]
        intro h
        rw [beq_iff_eq, ByteArray.toList_eq] at h
        exact hne (ByteArray.ext (Array.toList_inj.1 h))
      have hne1 : (fs == ⟨#[117, 114, 108]⟩) = false := by rw [beq_toListBytes, ByteArray.toList_eq ⟨#[117, 114, 108]⟩]; exact hne3
      clear hne
      go_wp2_with (go_at_call 59; fail)
      refine (hfo).mono ?_
      rintro e w7 ⟨rfl, b7⟩
      obtain ⟨s7, q7⟩ := st_below s6 b7
      have htb7 := (b7.block w2.heap.size ((Array.getElem?_eq_some_iff.1 htb6).1)).trans htb6
      obtain ⟨d0, d1, d2, d3, d4, dd⟩ := cells5 htb7
      have dd0 := dd 0
      obtain ⟨s8, q8⟩ := st_low s2 s7 ((Below.refl w2.heap.size w7).setCell (p := ⟨w2.heap.size, 0, none⟩) (Nat.le_refl _) (.int .i64 2))
      have ht := tell_t s8 2 (nameT l 0) hts
      clear dd g0 g1 g2 g3 g4
      go_wp2_with (go_at_call 48; fail)
      refine (ht).mono ?_
      rintro e w9 ⟨rfl, out', s9, b9⟩
      go_wp2
      go_ret
      exact ⟨rfl, out', by rw [HZ2.out]; exact s9, q2.trans (q3.trans (q6.trans (q7.trans (q8.trans b9))))⟩
    · rw [hurl.2 hun] at hfo
      go_wp2_with (go_at_call 59; fail)
      refine (hfo).mono ?_
      rintro e w7 ⟨rfl, b7⟩
      obtain ⟨s7, q7⟩ := st_below s6 b7
      have htb7 := (b7.block w2.heap.size ((Array.getElem?_eq_some_iff.1 htb6).1)).trans htb6
      have hqb := qb_r s7.1 fx 0
      rw [drew0] at hqb
      cases hqz : qbB t5
      · rw [hqz] at hqb
        have HZ2 : Hid (wordZ l = urlZ t5) := by
          have := HZ.out
          rw [hun, hqz] at this
          exact this
        go_wp2_with (go_at_call 60; fail)
        refine (hqb).mono ?_
        rintro e w' ⟨rfl, m7, rfl⟩
        obtain ⟨s8, q8⟩ := st_drew s7 m7
        have hu := url_any s8 fx hts
        go_wp2_with (go_at_call 61; fail)
        refine (hu).mono ?_
        rintro e w9 ⟨rfl, out', s9, b9⟩
        go_wp2
        go_ret
        exact ⟨rfl, out', by rw [HZ2.out]; exact s9, q2.trans (q3.trans (q6.trans (q7.trans (q8.trans b9))))⟩
      · rw [hqz] at hqb
        have HZ2 : Hid (wordZ l = (plainTok 2 (nameT l 0), t5)) := by
          have := HZ.out
          rw [hun, hqz] at this
          exact this
        go_wp2_with (go_at_call 60; fail)
        refine (hqb).mono ?_
        rintro e w' ⟨rfl, m7, rfl⟩
        obtain ⟨s7', q7'⟩ := st_drew s7 m7
        have htb7' : (w7.drewN m7).heap[w2.heap.size]? = _ := htb7
        obtain ⟨d0, d1, d2, d3, d4, dd⟩ := cells5 htb7'
        have dd0 := dd 0
        obtain ⟨s8, q8⟩ := st_low s2 s7' ((Below.refl w2.heap.size (w7.drewN m7)).setCell (p := ⟨w2.heap.size, 0, none⟩) (Nat.le_refl _) (.int .i64 2))
        have ht := tell_t s8 2 (nameT l 0) hts
        clear dd g0 g1 g2 g3 g4
        go_wp2_with (go_at_call 48; fail)
        refine (ht).mono ?_
        rintro e w9 ⟨rfl, out', s9, b9⟩
        go_wp2
        go_ret
        exact ⟨rfl, out', by rw [HZ2.out]; exact s9, q2.trans (q3.trans (q6.trans (q7.trans (q7'.trans (q8.trans b9)))))⟩
  · have e40 : (hd (nameR l 0) 0 == 40) = false := by simpa using h40
    have HZ : Hid (wordZ l = (plainTok 1 (nameT l 0), nameR l 0)) := by
      have := HT.out
      rw [if_neg h40] at this
      exact this
    generalize hd (nameR l 0) 0 = c5 at *
    clear HT
    refine ha3.mono ?_
    rintro e w' ⟨rfl, m4, rfl⟩
    obtain ⟨s6, q6⟩ := st_drew s3 m4
    have ht := tell_t s6 1 (nameT l 0) hts
    go_wp2_with (go_at_call 48; fail)
    refine (ht).mono ?_
    rintro e w9 ⟨rfl, out', s9, b9⟩
    go_wp2
    go_ret
    exact ⟨rfl, out', by rw [HZ.out]; exact s9, q2.trans (q3.trans (q6.trans b9))⟩
end
end Go.Proofs.YtdibldcnklgcjaaGreatDoor
