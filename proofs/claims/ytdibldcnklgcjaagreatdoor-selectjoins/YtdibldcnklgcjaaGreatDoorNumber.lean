/- The cutter's way over a number. -/
import Derived.Test.YtdibldcnklgcjaaGreatDoorNum
import Derived.Laws.Cover4
namespace Go.Proofs.YtdibldcnklgcjaaGreatDoor
open Go.RowKit
set_option maxRecDepth 100000

theorem nums_two (a c : List Int) : strOfNums (a ++ c) = strOfNums a ++ strOfNums c := by
  apply ByteArray.ext
  show ((a ++ c).map _).toArray = _
  rw [ByteArray.data_append]
  simp [strOfNums]
theorem enc_eq {c : Int} (h : IsChar c) : Utf8.encode c = strOfNums (Lib.encodeRuneZ c) := by
  obtain ⟨h0, h1, h2⟩ := h
  obtain ⟨n, rfl⟩ : ∃ n : Nat, c = n := ⟨c.toNat, by omega⟩
  have hv : Utf8.valid (n : Int) = true := by
    unfold Utf8.valid
    simp
    omega
  unfold Utf8.encode
  simp only [hv, if_true]
  have e0 : ((n : Int)).toNat = n := by omega
  rw [e0]
  by_cases a1 : n < 128
  · rw [if_pos a1, Lib.encodeRuneZ_one (by omega) (by omega)]
    simp [strOfNums, e0]
  · rw [if_neg a1]
    by_cases a2 : n < 2048
    · rw [if_pos a2, Lib.encodeRuneZ_two (by omega) (by omega)]
      have b1 : ((192 : Int) + n / 64).toNat = 192 + n / 64 := by omega
      have b2 : ((128 : Int) + n % 64).toNat = 128 + n % 64 := by omega
      simp [strOfNums, b1, b2]
    · rw [if_neg a2]
      by_cases a3 : n < 65536
      · rw [if_pos a3, Lib.encodeRuneZ_three (by omega)]
        have b1 : ((224 : Int) + n / 4096).toNat = 224 + n / 4096 := by omega
        have b2 : ((128 : Int) + n / 64 % 64).toNat = 128 + n / 64 % 64 := by omega
        have b3 : ((128 : Int) + n % 64).toNat = 128 + n % 64 := by omega
        simp [strOfNums, b1, b2, b3]
      · rw [if_neg a3, Lib.encodeRuneZ_four (by omega) (by omega)]
        have b0 : ((240 : Int) + n / 262144).toNat = 240 + n / 262144 := by omega
        have b1 : ((128 : Int) + n / 4096 % 64).toNat = 128 + n / 4096 % 64 := by omega
        have b2 : ((128 : Int) + n / 64 % 64).toNat = 128 + n / 64 % 64 := by omega
        have b3 : ((128 : Int) + n % 64).toNat = 128 + n % 64 := by omega
        simp [strOfNums, b0, b1, b2, b3]
theorem runes_bytes : ∀ (l : List Int) (s : List Int), (∀ c ∈ l, IsChar c) → l.foldl (fun r n => r ++ Utf8.encode n) (strOfNums s) = strOfNums (s ++ bytesZ l)
  | [], s, _ => by simp [bytesZ]
  | c :: r, s, h => by
    rw [List.foldl_cons, enc_eq (h c (by simp)), ← nums_two, runes_bytes r _ (fun d hd => h d (by simp [hd])), List.append_assoc, bytesZ_cons]
theorem runesBytes_eq (l : List Int) (h : ∀ c ∈ l, IsChar c) : runesBytes l = strOfNums (bytesZ l) := by
  have := runes_bytes l [] h
  rw [List.nil_append] at this
  exact this

section
variable {w w1 w2 : World} {b : Nat} {v out : Value} {xs l l' : List Int} {ts : List Tok}

set_option maxHeartbeats 1000000 in
theorem number_no (hs : St w b v out xs l ts) (fx : Fine xs) (hc : numB l = false) :
    Calls Tryz.prog 23 #[.pointer (some ⟨b, 0, none⟩)] w fun e w' => e = .returned (.bool false) ∧ St w' b v out xs l ts ∧ Below b w w' := by
  have ha := numB_r hs.1 fx 0
  rw [drew0, hc] at ha
  go_enter Tryz.func23, Tryz.ntmps23
  go_wp2_with (go_at_call 57; fail)
  refine (ha).mono ?_
  rintro e w' ⟨rfl, m, rfl⟩
  go_wp2
  go_ret
  exact ⟨rfl, st_drew hs _⟩

theorem cells5 {w : World} {tb : Nat} {x0 x1 x2 x3 x4 : Value} (h : w.heap[tb]? = some (.cells #[x0, x1, x2, x3, x4] 69 (0, 0))) :
    w.cell? ⟨tb, 0, none⟩ = some x0 ∧ w.cell? ⟨tb, 1, none⟩ = some x1 ∧ w.cell? ⟨tb, 2, none⟩ = some x2 ∧ w.cell? ⟨tb, 3, none⟩ = some x3 ∧ w.cell? ⟨tb, 4, none⟩ = some x4 ∧ ∀ o, w.frozen? ⟨tb, o, none⟩ = false := by
  refine ⟨?_, ?_, ?_, ?_, ?_, fun o => ?_⟩ <;> simp [World.cell?, World.frozen?, h]
theorem set5k {w : World} {tb : Nat} {x0 x1 x2 x3 x4 u : Value} (h : w.heap[tb]? = some (.cells #[x0, x1, x2, x3, x4] 69 (0, 0))) : (w.setCell ⟨tb, 0, none⟩ u).heap[tb]? = some (.cells #[u, x1, x2, x3, x4] 69 (0, 0)) := by
  simp [World.setCell, Array.getElem?_modify, h]
theorem set5u {w : World} {tb : Nat} {x0 x1 x2 x3 x4 u : Value} (h : w.heap[tb]? = some (.cells #[x0, x1, x2, x3, x4] 69 (0, 0))) : (w.setCell ⟨tb, 2, none⟩ u).heap[tb]? = some (.cells #[x0, x1, u, x3, x4] 69 (0, 0)) := by
  simp [World.setCell, Array.getElem?_modify, h]

/-- Where the cutter stands, and what lies between two places, as a text. -/
theorem at_text {l0 l1 : List Int} (h0 : At w b v out xs l0) (h1 : At w1 b v out xs l1) (hsuf : l1 <:+ l0) (hne : l0 ≠ []) (fx : Fine xs) :
    ∃ (rb off cap p0 p1 : Nat), w.cell? ⟨b, 1, none⟩ = some (.int .i64 p0) ∧ w1.cell? ⟨b, 1, none⟩ = some (.int .i64 p1) ∧ w1.cell? ⟨b, 0, none⟩ = some (.slice (some ⟨rb, off, none⟩) xs.length cap) ∧ p0 ≤ p1 ∧ p1 ≤ xs.length ∧ xs.length ≤ cap ∧ xs.length ≤ 1000000000 ∧ p0 < xs.length ∧
      ∀ (W : World) (c2 : Nat), (∀ k, k < w1.heap.size → W.heap[k]? = w1.heap[k]?) → (convert 48 9 (.slice (some ⟨rb, off + p0, none⟩) (p1 - p0) c2)).run Tryz.prog W = .ok (.string (strOfNums (bytesZ (gone l0 l1)))) W := by
  have hl9 := fx.1
  have hch := at_chars fx h0
  have hlen := hsuf.length_le
  obtain ⟨p0, hb0, hr0, _, hp0, rfl⟩ := h0
  obtain ⟨p1, hb1, hr1, _, hp1, rfl⟩ := h1
  have hlt : p0 < xs.length := by
    rcases Nat.lt_or_ge p0 xs.length with h | h
    · exact h
    · exact absurd (List.drop_eq_nil_of_le h) hne
  obtain ⟨a, cap, rfl, hcap, hrow⟩ := hr1
  obtain ⟨rb, off, rfl, hcell⟩ := hrow (by omega)
  simp at hlen
  refine ⟨rb, off, cap, p0, p1, (cells3 hb0).2.1, (cells3 hb1).2.1, (cells3 hb1).1, by omega, hp1, hcap, hl9, hlt, fun W c2 hW => ?_⟩
  have hg : gone (xs.drop p0) (xs.drop p1) = (xs.drop p0).take (p1 - p0) := by
    unfold gone
    congr 1
    simp
    omega
  rw [hg, ← runesBytes_eq _ (fun c hc => hch c (List.mem_of_mem_take hc))]
  refine run_convert_runes W 48 9 21 ⟨rb, off + p0, none⟩ (p1 - p0) c2 (xs.drop p0) (by simp; omega) Tryz.underlying48 Tryz.underlying21 Tryz.underlying9 ?_
  intro j hj
  simp at hj
  have e : (⟨rb, off + p0, none⟩ : Addr).add j = ⟨rb, off + (p0 + j), none⟩ := by unfold Addr.add; split <;> simp_all; omega
  rw [e]
  have := hcell (p0 + j) (by omega)
  have hlt2 := World.block_lt_of_cell? w1 _ this
  have e3 : W.cell? ⟨rb, off + (p0 + j), none⟩ = w1.cell? ⟨rb, off + (p0 + j), none⟩ := World.cell?_of_block (w := w1) (hW rb hlt2)
  have e2 : (xs.drop p0).getD j 0 = xs.getD (p0 + j) 0 := by simp [List.getD]
  rw [e2, e3]
  exact this

set_option maxHeartbeats 4000000 in
set_option maxRecDepth 100000 in
theorem number_yes (hs : St w b v out xs l ts) (fx : Fine xs) (hts : ts.length ≤ 1000000000) (hc : numB l = true) :
    Calls Tryz.prog 23 #[.pointer (some ⟨b, 0, none⟩)] w fun e w' => e = .returned (.bool true) ∧ ∃ out', St w' b v out' xs ((numZ l).2) (ts ++ [(numZ l).1]) ∧ Below b w w' := by
  have mixed : Tryz.prog.follows Departure.mixedOrders = true := by kernel_rfl
  have ha := numB_r hs.1 fx 0
  rw [drew0, hc] at ha
  have hne : l ≠ [] := by intro e; rw [e] at hc; exact absurd hc (by decide)
  obtain ⟨pA, hcA, _, hpA, _⟩ := at_raw hs.1 fx
  go_enter Tryz.func23, Tryz.ntmps23
  go_wp2_with (go_at_call 57; fail)
  refine (ha).mono ?_
  rintro e w' ⟨rfl, m, rfl⟩
  have hnu := numeral_any (at_drew hs.1 m) fx
  go_wp2_with (go_at_call 58; fail)
  refine (hnu).mono ?_
  rintro e w2 ⟨rfl, h2, k2'⟩
  have k2 := (Kept.drewN b w m).trans k2'
  obtain ⟨s2, q2⟩ := st_move hs k2 h2
  obtain ⟨rb, off, cap, p0, p1, d0, d1, d2, hp01, hp1, hcap, hl9, hp0, hconv⟩ := at_text hs.1 h2 (numR_suf l) hne fx
  have ep : pA = p0 := by
    rw [hcA] at d0
    simp at d0
    omega
  subst ep
  clear d0 hnu ha
  have hi1 : (pA : Int) ≤ (p1 : Int) := by omega
  have hi2 : (p1 : Int) ≤ (cap : Int) := by omega
  have hblt : b < w2.heap.size := at_lt h2
  have hcp : ¬ cap = pA := by omega
  have hv1 := hconv w2.drew (cap - pA) (fun _ _ => rfl)
  have hv2 := fun o => hconv (w2.alloc o).drew (cap - pA) (fun k hk => Below.heap_alloc w2 o k hk)
  clear hconv
  go_wp2
  go_region
  have HT : Hid (numZ l = if nameB (numR l) then (mkTok 12 (gone l (numR l)) (nameT (numR l) 0) (numW l) false, nameR (numR l) 0)
      else if hd (numR l) 0 = 37 then (mkTok 11 (gone l (numR l)) [] (numW l) false, (numR l).drop 1)
      else (mkTok 10 (gone l (numR l)) [] (numW l) false, numR l)) := rfl
  have hal : Below w2.heap.size w2 (w2.alloc (.cells #[.int .i64 10, .string (strOfNums (bytesZ (gone l (numR l)))), .string ⟨#[]⟩, .bool (numW l), .bool false] 69)).drew := ((Below.refl _ w2).alloc (Nat.le_refl _) _).drew
  have htb : (w2.alloc (.cells #[.int .i64 10, .string (strOfNums (bytesZ (gone l (numR l)))), .string ⟨#[]⟩, .bool (numW l), .bool false] 69)).drew.heap[w2.heap.size]? = some (.cells #[.int .i64 10, .string (strOfNums (bytesZ (gone l (numR l)))), .string ⟨#[]⟩, .bool (numW l), .bool false] 69 (0, 0)) := heap_alloc_new w2 _
  obtain ⟨s3, q3⟩ := st_below s2 hal
  clear hv1 hv2 hal d1 d2
  generalize (w2.alloc (.cells #[.int .i64 10, .string (strOfNums (bytesZ (gone l (numR l)))), .string ⟨#[]⟩, .bool (numW l), .bool false] 69)).drew = w3 at *
  obtain ⟨f0, f1, f2, f3, f4, ff⟩ := cells5 htb
  have ff0 := ff 0
  have hnm := nameB_w s3.1 fx
  have ha3 := fun m => ahead_r s3.1 fx 0 0 rfl (by omega) m
  have HTB : Hid (w3.heap[w2.heap.size]? = some (.cells #[.int .i64 10, .string (strOfNums (bytesZ (gone l (numR l)))), .string ⟨#[]⟩, .bool (numW l), .bool false] 69 (0, 0))) := htb
  clear htb ff
  have hlt2 : w2.heap.size < w3.heap.size := (Array.getElem?_eq_some_iff.1 HTB.out).1
  cases hnb : nameB (numR l)
  · rw [hnb] at hnm
    by_cases h37 : hd (numR l) 0 = 37
    · obtain ⟨c5, t5, hct⟩ : ∃ c t, numR l = c :: t := by
        cases hq : numR l with
        | nil => rw [hq] at h37; exact absurd h37 (by decide)
        | cons c t => exact ⟨c, t, rfl⟩
      have HZ : Hid (numZ l = (mkTok 11 (gone l (numR l)) [] (numW l) false, t5)) := by
        have := HT.out
        rw [hnb, if_neg (by simp), if_pos h37] at this
        rw [this, hct]
        rfl
      have hn5 := fun m => next_r s3.1 fx c5 t5 hct m
      rw [h37] at ha3
      clear HT hct
      go_wp2_with (go_at_call 55; fail)
      refine (hnm).mono ?_
      rintro e w' ⟨rfl, m4, rfl⟩
      go_wp2_with (go_at_call 46; fail)
      refine (ha3 _).mono ?_
      rintro e w' ⟨rfl, m5, rfl⟩
      go_wp2_with (go_at_call 49; fail)
      refine (hn5 _).mono ?_
      rintro e w6 ⟨rfl, h6, k6⟩
      obtain ⟨s6, q6⟩ := st_move s3 k6 h6
      have htb6 := (k6.block w2.heap.size hlt2 (by omega)).trans HTB.out
      obtain ⟨g0, g1, g2, g3, g4, gg⟩ := cells5 htb6
      have gg0 := gg 0
      obtain ⟨s7, q7⟩ := st_low s2 s6 ((Below.refl w2.heap.size w6).setCell (p := ⟨w2.heap.size, 0, none⟩) (Nat.le_refl _) (.int .i64 11))
      have ht := tell_h s7 11 (gone l (numR l)) (numW l) false hts
      clear gg htb6 f0 f1 f2 f3 f4
      go_wp2_with (go_at_call 48; fail)
      refine (ht).mono ?_
      rintro e w9 ⟨rfl, out', s9, b9⟩
      go_wp2
      go_ret
      exact ⟨rfl, out', by rw [HZ.out]; exact s9, q2.trans (q3.trans (q6.trans (q7.trans b9)))⟩
    · have e37 : (hd (numR l) 0 == 37) = false := by simpa using h37
      have HZ : Hid (numZ l = (mkTok 10 (gone l (numR l)) [] (numW l) false, numR l)) := by
        have := HT.out
        rw [hnb, if_neg (by simp), if_neg h37] at this
        exact this
      generalize hd (numR l) 0 = c5 at *
      clear HT
      go_wp2_with (go_at_call 55; fail)
      refine (hnm).mono ?_
      rintro e w' ⟨rfl, m4, rfl⟩
      go_wp2_with (go_at_call 46; fail)
      refine (ha3 _).mono ?_
      rintro e w' ⟨rfl, m5, rfl⟩
      obtain ⟨s6, q6⟩ := st_drew s3 m5
      have ht := tell_h s6 10 (gone l (numR l)) (numW l) false hts
      go_wp2_with (go_at_call 48; fail)
      refine (ht).mono ?_
      rintro e w9 ⟨rfl, out', s9, b9⟩
      go_wp2
      go_ret
      exact ⟨rfl, out', by rw [HZ.out]; exact s9, q2.trans (q3.trans (q6.trans b9))⟩
  · rw [hnb] at hnm
    have HZ : Hid (numZ l = (mkTok 12 (gone l (numR l)) (nameT (numR l) 0) (numW l) false, nameR (numR l) 0)) := by
      have := HT.out
      rw [hnb, if_pos rfl] at this
      exact this
    clear HT
    go_wp2_with (go_at_call 55; fail)
    refine (hnm).mono ?_
    rintro e w' ⟨rfl, m4, rfl⟩
    obtain ⟨s4, q4⟩ := st_drew s3 m4
    obtain ⟨s5, q5⟩ := st_low s2 s4 ((Below.refl w2.heap.size (w3.drewN m4)).setCell (p := ⟨w2.heap.size, 0, none⟩) (Nat.le_refl _) (.int .i64 12))
    have htb5 : ((w3.drewN m4).setCell ⟨w2.heap.size, 0, none⟩ (.int .i64 12)).heap[w2.heap.size]? = _ := set5k (w := w3.drewN m4) HTB.out
    have hnn := name_any s5.1 fx
    go_wp2_with (go_at_call 56; fail)
    refine (hnn).mono ?_
    rintro e w6 ⟨rfl, h6, k6⟩
    obtain ⟨s6, q6⟩ := st_move s5 k6 h6
    have htb6 := (k6.block w2.heap.size (by simp; exact hlt2) (by omega)).trans htb5
    obtain ⟨g0, g1, g2, g3, g4, gg⟩ := cells5 htb6
    have gg2 := gg 2
    obtain ⟨s7, q7⟩ := st_low s2 s6 ((Below.refl w2.heap.size w6).setCell (p := ⟨w2.heap.size, 2, none⟩) (Nat.le_refl _) (.string (strOfNums (bytesZ (nameT (numR l) 0)))))
    have ht := tell_m s7 12 (gone l (numR l)) (nameT (numR l) 0) (numW l) false hts
    clear gg htb6 htb5 f0 f1 f2 f3 f4
    go_wp2_with (go_at_call 48; fail)
    refine (ht).mono ?_
    rintro e w9 ⟨rfl, out', s9, b9⟩
    go_wp2
    go_ret
    exact ⟨rfl, out', by rw [HZ.out]; exact s9, q2.trans (q3.trans (q4.trans (q5.trans (q6.trans (q7.trans b9)))))⟩
end
end Go.Proofs.YtdibldcnklgcjaaGreatDoor
