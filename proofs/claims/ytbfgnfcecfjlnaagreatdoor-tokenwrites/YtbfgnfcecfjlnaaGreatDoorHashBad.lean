/- The cutter's ways over hashes, keywords and strings. What is left of a URL that is none. -/
import Derived.Test.YtbfgnfcecfjlnaaGreatDoorSpaces
namespace Go.Proofs.YtbfgnfcecfjlnaaGreatDoor
open Go.RowKit
set_option maxRecDepth 100000

section
variable {w w1 w2 : World} {b : Nat} {v out : Value} {xs l l' : List Int} {ts : List Tok}
theorem tell_m (hs : St w b v out xs l ts) (k : Int) (t u : List Int) (wh fl : Bool) (hts : ts.length ≤ 1000000000) :
    Calls Tryz.prog 58 #[.pointer (some ⟨b, 0, none⟩), .agg #[.int .i64 k, .string (strOfNums (bytesZ t)), .string (strOfNums (bytesZ u)), .bool wh, .bool fl]] w fun e w' => e = .returned (.bool true) ∧ ∃ out', St w' b v out' xs l (ts ++ [mkTok k t u wh fl]) ∧ Below b w w' := tell_any hs (mkTok k t u wh fl) hts
theorem tell_h (hs : St w b v out xs l ts) (k : Int) (t : List Int) (wh fl : Bool) (hts : ts.length ≤ 1000000000) :
    Calls Tryz.prog 58 #[.pointer (some ⟨b, 0, none⟩), .agg #[.int .i64 k, .string (strOfNums (bytesZ t)), .string ⟨#[]⟩, .bool wh, .bool fl]] w fun e w' => e = .returned (.bool true) ∧ ∃ out', St w' b v out' xs l (ts ++ [mkTok k t [] wh fl]) ∧ Below b w w' := tell_any hs (mkTok k t [] wh fl) hts
theorem nameB_0 (h : At w b v out xs l) (fx : Fine xs) (n : Nat) : Calls Tryz.prog 64 #[.pointer (some ⟨b, 0, none⟩), .int .i64 0] (w.drewN n) fun e w' => e = .returned (.bool (nameB l)) ∧ ∃ m, w' = w.drewN m := nameB_r h fx 0 0 rfl (by omega) n
theorem nameB_w (h : At w b v out xs l) (fx : Fine xs) : Calls Tryz.prog 64 #[.pointer (some ⟨b, 0, none⟩), .int .i64 0] w fun e w' => e = .returned (.bool (nameB l)) ∧ ∃ m, w' = w.drewN m := nameB_0 h fx 0

set_option maxHeartbeats 1000000 in
theorem hash_no (hs : St w b v out xs l ts) (fx : Fine xs) (hc : hashB l = false) :
    Calls Tryz.prog 23 #[.pointer (some ⟨b, 0, none⟩)] w fun e w' => e = .returned (.bool false) ∧ St w' b v out xs l ts ∧ Below b w w' := by
  have ha := ahead_w hs.1 fx 0 0 rfl (by omega)
  have hb := fun m => ahead_r hs.1 fx 1 1 rfl (by omega) m
  have he := fun m => escB_r hs.1 fx 1 1 rfl (by omega) m
  unfold hashB at hc
  generalize hd l 0 = c0 at *
  generalize hd l 1 = c1 at *
  generalize escB (l.drop 1) = e1 at *
  by_cases h0 : c0 = 35
  · subst h0
    have hp : partZ c1 = false := by revert hc; cases partZ c1 <;> simp
    have hq : e1 = false := by revert hc; cases e1 <;> simp
    subst hq
    clear hc
    go_enter Tryz.func23, Tryz.ntmps23
    go_wp2_with (go_at_call 56; fail)
    refine (ha).mono ?_
    rintro e w' ⟨rfl, m, rfl⟩
    go_wp2_with (go_at_call 56; fail)
    refine (hb _).mono ?_
    rintro e w' ⟨rfl, m, rfl⟩
    go_wp2_with (go_at_call 62; fail)
    refine (part_any _ _).mono ?_
    rintro e w' ⟨rfl, rfl⟩
    go_wp2_with (go_at_call 63; fail)
    refine (he _).mono ?_
    rintro e w' ⟨rfl, m, rfl⟩
    go_wp2
    go_ret
    exact ⟨rfl, st_drew hs _⟩
  · have e0 : (c0 == 35) = false := by simpa using h0
    go_enter Tryz.func23, Tryz.ntmps23
    go_wp2_with (go_at_call 56; fail)
    refine (ha).mono ?_
    rintro e w' ⟨rfl, m, rfl⟩
    go_wp2
    go_ret
    exact ⟨rfl, st_drew hs _⟩

set_option maxHeartbeats 1000000 in
theorem hash_yes (hs : St w b v out xs l ts) (fx : Fine xs) (hts : ts.length ≤ 1000000000) (hc : hashB l = true) :
    Calls Tryz.prog 23 #[.pointer (some ⟨b, 0, none⟩)] w fun e w' => e = .returned (.bool true) ∧ ∃ out', St w' b v out' xs ((hashZ (l.drop 1)).2) (ts ++ [(hashZ (l.drop 1)).1]) ∧ Below b w w' := by
  obtain ⟨t, rfl⟩ : ∃ t, l = 35 :: t := by
    cases l with
    | nil => exact absurd hc (by decide)
    | cons c t =>
      simp [hashB, hd] at hc
      exact ⟨t, by rw [hc.1]⟩
  have hb := fun m => ahead_r hs.1 fx 1 1 rfl (by omega) m
  have he := fun m => escB_r hs.1 fx 1 1 rfl (by omega) m
  have ha := ahead_w hs.1 fx 0 0 rfl (by omega)
  have hn := fun m => next_r hs.1 fx 35 t rfl m
  have hq : (partZ (hd (35 :: t) 1) || escB t) = true := by simpa [hashB, hd] using hc
  have e0 : hd (35 :: t) 0 = 35 := rfl
  have e1 : (35 :: t : List Int).drop 1 = t := rfl
  rw [e0] at ha
  rw [e1] at he ⊢
  generalize hd (35 :: t) 1 = c1 at *
  cases hp : partZ c1
  · rw [hp, Bool.false_or] at hq
    rw [hq] at he
    go_enter Tryz.func23, Tryz.ntmps23
    go_wp2_with (go_at_call 56; fail)
    refine (ha).mono ?_
    rintro e w' ⟨rfl, m, rfl⟩
    go_wp2_with (go_at_call 56; fail)
    refine (hb _).mono ?_
    rintro e w' ⟨rfl, m, rfl⟩
    go_wp2_with (go_at_call 62; fail)
    refine (part_any _ _).mono ?_
    rintro e w' ⟨rfl, rfl⟩
    go_wp2_with (go_at_call 63; fail)
    refine (he _).mono ?_
    rintro e w' ⟨rfl, m, rfl⟩
    go_wp2_with (go_at_call 59; fail)
    refine (hn _).mono ?_
    rintro e w3 ⟨rfl, h3, k3⟩
    have hm := nameB_w h3 fx
    go_wp2_with (go_at_call 64; fail)
    refine (hm).mono ?_
    rintro e w' ⟨rfl, m4, rfl⟩
    have hnm := name_any (at_drew h3 m4) fx
    go_wp2_with (go_at_call 65; fail)
    refine (hnm).mono ?_
    rintro e w5 ⟨rfl, h5, k5⟩
    obtain ⟨s5, b5⟩ := st_move hs (k3.trans ((Kept.drewN b w3 m4).trans k5)) h5
    have ht := tell_h s5 4 (nameT t 0) false (nameB t) hts
    go_wp2_with (go_at_call 58; fail)
    refine (ht).mono ?_
    rintro e w6 ⟨rfl, out', s6, b6⟩
    go_wp2
    go_ret
    exact ⟨rfl, out', s6, b5.trans b6⟩
  · go_enter Tryz.func23, Tryz.ntmps23
    go_wp2_with (go_at_call 56; fail)
    refine (ha).mono ?_
    rintro e w' ⟨rfl, m, rfl⟩
    go_wp2_with (go_at_call 56; fail)
    refine (hb _).mono ?_
    rintro e w' ⟨rfl, m, rfl⟩
    go_wp2_with (go_at_call 62; fail)
    refine (part_any _ _).mono ?_
    rintro e w' ⟨rfl, rfl⟩
    go_wp2_with (go_at_call 59; fail)
    refine (hn _).mono ?_
    rintro e w3 ⟨rfl, h3, k3⟩
    have hm := nameB_w h3 fx
    go_wp2_with (go_at_call 64; fail)
    refine (hm).mono ?_
    rintro e w' ⟨rfl, m4, rfl⟩
    have hnm := name_any (at_drew h3 m4) fx
    go_wp2_with (go_at_call 65; fail)
    refine (hnm).mono ?_
    rintro e w5 ⟨rfl, h5, k5⟩
    obtain ⟨s5, b5⟩ := st_move hs (k3.trans ((Kept.drewN b w3 m4).trans k5)) h5
    have ht := tell_h s5 4 (nameT t 0) false (nameB t) hts
    go_wp2_with (go_at_call 58; fail)
    refine (ht).mono ?_
    rintro e w6 ⟨rfl, out', s6, b6⟩
    go_wp2
    go_ret
    exact ⟨rfl, out', s6, b5.trans b6⟩

set_option maxHeartbeats 1000000 in
theorem keyword_no (hs : St w b v out xs l ts) (fx : Fine xs) (hc : atB l = false) :
    Calls Tryz.prog 27 #[.pointer (some ⟨b, 0, none⟩)] w fun e w' => e = .returned (.bool false) ∧ St w' b v out xs l ts ∧ Below b w w' := by
  have ha := ahead_w hs.1 fx 0 0 rfl (by omega)
  have he := fun m => nameB_r hs.1 fx 1 1 rfl (by omega) m
  unfold atB at hc
  generalize hd l 0 = c0 at *
  generalize nameB (l.drop 1) = e1 at *
  by_cases h0 : c0 = 64
  · subst h0
    have hq : e1 = false := by revert hc; cases e1 <;> simp
    subst hq
    clear hc
    go_enter Tryz.func27, Tryz.ntmps27
    go_wp2_with (go_at_call 56; fail)
    refine (ha).mono ?_
    rintro e w' ⟨rfl, m, rfl⟩
    go_wp2_with (go_at_call 64; fail)
    refine (he _).mono ?_
    rintro e w' ⟨rfl, m, rfl⟩
    go_wp2
    go_ret
    exact ⟨rfl, st_drew hs _⟩
  · have e0 : (c0 == 64) = false := by simpa using h0
    go_enter Tryz.func27, Tryz.ntmps27
    go_wp2_with (go_at_call 56; fail)
    refine (ha).mono ?_
    rintro e w' ⟨rfl, m, rfl⟩
    go_wp2
    go_ret
    exact ⟨rfl, st_drew hs _⟩

set_option maxHeartbeats 1000000 in
theorem keyword_yes (hs : St w b v out xs l ts) (fx : Fine xs) (hts : ts.length ≤ 1000000000) (hc : atB l = true) :
    Calls Tryz.prog 27 #[.pointer (some ⟨b, 0, none⟩)] w fun e w' => e = .returned (.bool true) ∧ ∃ out', St w' b v out' xs (nameR (l.drop 1) 0) (ts ++ [plainTok 3 (nameT (l.drop 1) 0)]) ∧ Below b w w' := by
  obtain ⟨t, rfl⟩ : ∃ t, l = 64 :: t := by
    cases l with
    | nil => exact absurd hc (by decide)
    | cons c t =>
      simp [atB, hd] at hc
      exact ⟨t, by rw [hc.1]⟩
  have he := fun m => nameB_r hs.1 fx 1 1 rfl (by omega) m
  have ha := ahead_w hs.1 fx 0 0 rfl (by omega)
  have hn := fun m => next_r hs.1 fx 64 t rfl m
  have hq : nameB t = true := by simpa [atB, hd] using hc
  have e0 : hd (64 :: t) 0 = 64 := rfl
  have e1 : (64 :: t : List Int).drop 1 = t := rfl
  rw [e0] at ha
  rw [e1] at he ⊢
  rw [hq] at he
  go_enter Tryz.func27, Tryz.ntmps27
  go_wp2_with (go_at_call 56; fail)
  refine (ha).mono ?_
  rintro e w' ⟨rfl, m, rfl⟩
  go_wp2_with (go_at_call 64; fail)
  refine (he _).mono ?_
  rintro e w' ⟨rfl, m, rfl⟩
  go_wp2_with (go_at_call 59; fail)
  refine (hn _).mono ?_
  rintro e w3 ⟨rfl, h3, k3⟩
  have hnm := name_any h3 fx
  go_wp2_with (go_at_call 65; fail)
  refine (hnm).mono ?_
  rintro e w5 ⟨rfl, h5, k5⟩
  obtain ⟨s5, b5⟩ := st_move hs (k3.trans k5) h5
  have ht := tell_t s5 3 (nameT t 0) hts
  go_wp2_with (go_at_call 58; fail)
  refine (ht).mono ?_
  rintro e w6 ⟨rfl, out', s6, b6⟩
  go_wp2
  go_ret
  exact ⟨rfl, out', s6, b5.trans b6⟩
end
end Go.Proofs.YtbfgnfcecfjlnaaGreatDoor
namespace Go.Proofs.YtbfgnfcecfjlnaaGreatDoor
open Go.RowKit
set_option maxRecDepth 100000

section
variable {w w1 w2 : World} {b : Nat} {v out : Value} {xs l l' : List Int} {ts : List Tok}
theorem at_least (h : At w b v out xs l) (fx : Fine xs) : ∃ (a : Option Addr) (cap p : Nat), w.cell? ⟨b, 0, none⟩ = some (.slice a xs.length cap) ∧ w.cell? ⟨b, 1, none⟩ = some (.int .i64 p) ∧ w.frozen? ⟨b, 1, none⟩ = false ∧ p ≤ xs.length ∧ xs.length ≤ 1000000000 ∧ xs.length ≤ cap ∧ ∀ (n : Nat) (q : Int), q = min ((p : Int) + 1) xs.length → At ((w.drewN n).setCell ⟨b, 1, none⟩ (.int .i64 q)) b v out xs (l.drop 1) := by
  have h' := h
  obtain ⟨p, hb, hr, ho, hp, rfl⟩ := h
  have hr' := hr
  obtain ⟨a, cap, rfl, hcap, _⟩ := hr'
  refine ⟨a, cap, p, (cells3 hb).1, (cells3 hb).2.1, free3 hb 1, hp, fx.1, hcap, fun n q hq => ?_⟩
  by_cases hlt : p < xs.length
  · have e : q = ((p + 1 : Nat) : Int) := by omega
    subst e
    have := at_set (at_drew h' n) (q := p + 1) (by omega)
    rw [List.drop_drop]
    exact this
  · have e : q = ((xs.length : Nat) : Int) := by omega
    subst e
    have := at_set (at_drew h' n) (q := xs.length) (by omega)
    have e2 : List.drop 1 (List.drop p xs) = List.drop xs.length xs := by
      rw [List.drop_drop, List.drop_eq_nil_of_le (by omega), List.drop_eq_nil_of_le (by omega)]
    rw [e2]
    exact this

set_option maxHeartbeats 1000000 in
set_option maxRecDepth 100000 in
theorem bad_any (hs : St w b v out xs l ts) (fx : Fine xs) (hts : ts.length ≤ 1000000000) :
    Calls Tryz.prog 101 #[.pointer (some ⟨b, 0, none⟩)] w fun e w' => e = .returned (.bool true) ∧ ∃ out', St w' b v out' xs (badR l 0) (ts ++ [plainTok 8 []]) ∧ Below b w w' := by
  have mixed : Tryz.prog.follows Departure.mixedOrders = true := by kernel_rfl
  go_enter Tryz.func101, Tryz.ntmps101
  go_wp2
  go_loopw [] (fun wr => ∃ l', St wr b v out xs l' ts ∧ Below b w wr ∧ badR l' 0 = badR l 0) (fun wr => xs.length - posOf wr b)
  case atStart => exact ⟨_, hs, Below.refl b w, rfl⟩
  case round =>
    obtain ⟨l', hst, hbw, heq⟩ := hrel
    have HQ : Hid (badR l' 0 = badR l 0) := heq
    have HP : Hid (xs.length - posOf wr b = l'.length) := at_pos hst.1
    clear heq hs
    have hdn := done_w hst.1 fx
    have ha := fun m => ahead_r hst.1 fx 0 0 rfl (by omega) m
    have he := fun m => escB_0 hst.1 fx m
    cases l' with
    | nil =>
      have HN : Hid (badR l 0 = List.drop 1 []) := HQ.out.symm
      clear ha he
      go_wp2_with (go_at_call 29; fail)
      refine (hdn).mono ?_
      rintro e w' ⟨rfl, m, rfl⟩
      obtain ⟨a, cap, p, hc0, hc1, hf1, hp, hl9, hcap, hset⟩ := at_least hst.1 fx
      have HS : Hid (∀ (n : Nat) (q : Int), q = min ((p : Int) + 1) xs.length → At ((wr.drewN n).setCell ⟨b, 1, none⟩ (.int .i64 q)) b v out xs (List.drop 1 ([]))) := hset
      clear hset
      go_wp2
      go_region
      have hq7 : (if (xs.length : Int) < (p : Int) + 1 then (xs.length : Int) else (p : Int) + 1) = min ((p : Int) + 1) (xs.length : Int) := by split <;> omega
      have hset7 := HS.out (m + 1) (if (xs.length : Int) < (p : Int) + 1 then (xs.length : Int) else (p : Int) + 1) hq7
      obtain ⟨s7, b7⟩ := st_move hst ((Kept.drewN b wr (m + 1)).setCell 1 _) hset7
      clear hset7 hq7
      generalize ((wr.drewN (m + 1)).setCell ⟨b, 1, none⟩ (.int .i64 (if (xs.length : Int) < (p : Int) + 1 then (xs.length : Int) else (p : Int) + 1))) = W7 at *
      generalize (if (xs.length : Int) < (p : Int) + 1 then (xs.length : Int) else (p : Int) + 1) = q7 at *
      have ht := tell_k s7 8 hts
      go_wp2_with (go_at_call 58; fail)
      refine (ht).mono ?_
      rintro e w8 ⟨rfl, out', s8, b8⟩
      go_wp2
      go_ret
      exact ⟨rfl, out', by rw [HN.out]; exact s8, hbw.trans (b7.trans b8)⟩
    | cons c u =>
      have ed : decide (c :: u = []) = false := by simp
      rw [ed] at hdn
      have e0 : hd (c :: u) 0 = c := rfl
      rw [e0] at ha
      by_cases h41 : c = 41
      · subst h41
        have HN : Hid (badR l 0 = List.drop 1 (41 :: u)) := by
          have := HQ.out
          rw [badR, if_pos rfl] at this
          exact this.symm
        obtain ⟨a, cap, p, hc0, hc1, hf1, hp, hl9, hcap, hset⟩ := at_least hst.1 fx
        have HS : Hid (∀ (n : Nat) (q : Int), q = min ((p : Int) + 1) xs.length → At ((wr.drewN n).setCell ⟨b, 1, none⟩ (.int .i64 q)) b v out xs (List.drop 1 (41 :: u))) := hset
        clear hset
        go_wp2_with (go_at_call 29; fail)
        refine (hdn).mono ?_
        rintro e w' ⟨rfl, m, rfl⟩
        go_wp2_with (go_at_call 56; fail)
        refine (ha _).mono ?_
        rintro e w' ⟨rfl, m2, rfl⟩
        go_wp2
        go_region
        have hq7 : (if (xs.length : Int) < (p : Int) + 1 then (xs.length : Int) else (p : Int) + 1) = min ((p : Int) + 1) (xs.length : Int) := by split <;> omega
        have hset7 := HS.out (m2 + 1) (if (xs.length : Int) < (p : Int) + 1 then (xs.length : Int) else (p : Int) + 1) hq7
        obtain ⟨s7, b7⟩ := st_move hst ((Kept.drewN b wr (m2 + 1)).setCell 1 _) hset7
        clear hset7 hq7
        generalize ((wr.drewN (m2 + 1)).setCell ⟨b, 1, none⟩ (.int .i64 (if (xs.length : Int) < (p : Int) + 1 then (xs.length : Int) else (p : Int) + 1))) = W7 at *
        generalize (if (xs.length : Int) < (p : Int) + 1 then (xs.length : Int) else (p : Int) + 1) = q7 at *
        have ht := tell_k s7 8 hts
        go_wp2_with (go_at_call 58; fail)
        refine (ht).mono ?_
        rintro e w8 ⟨rfl, out', s8, b8⟩
        go_wp2
        go_ret
        exact ⟨rfl, out', by rw [HN.out]; exact s8, hbw.trans (b7.trans b8)⟩
      · have e41 : (c == 41) = false := by simpa using h41
        cases hez : escB (c :: u)
        · rw [hez] at he
          have hn := fun m => next_r hst.1 fx c u rfl m
          go_wp2_with (go_at_call 29; fail)
          refine (hdn).mono ?_
          rintro e w' ⟨rfl, m, rfl⟩
          go_wp2_with (go_at_call 56; fail)
          refine (ha _).mono ?_
          rintro e w' ⟨rfl, m2, rfl⟩
          go_wp2_with (go_at_call 63; fail)
          refine (he _).mono ?_
          rintro e w' ⟨rfl, m3, rfl⟩
          go_wp2_with (go_at_call 59; fail)
          refine (hn _).mono ?_
          rintro e w2 ⟨rfl, h2, k2⟩
          go_wp2
          obtain ⟨s7, b7⟩ := st_move hst k2 h2
          go_roundw
          case rel =>
            refine ⟨u, s7, hbw.trans b7, ?_⟩
            have := HQ.out
            rw [badR, if_neg h41, if_neg (by simp [hez])] at this
            exact this
          case measure =>
            rw [HP.out, at_pos h2]
            simp only [List.length_cons]
            omega
        · rw [hez] at he
          have hn := fun m => escape_r c u hst.1 rfl fx m
          go_wp2_with (go_at_call 29; fail)
          refine (hdn).mono ?_
          rintro e w' ⟨rfl, m, rfl⟩
          go_wp2_with (go_at_call 56; fail)
          refine (ha _).mono ?_
          rintro e w' ⟨rfl, m2, rfl⟩
          go_wp2_with (go_at_call 63; fail)
          refine (he _).mono ?_
          rintro e w' ⟨rfl, m3, rfl⟩
          go_wp2_with (go_at_call 92; fail)
          refine (hn _).mono ?_
          rintro e w2 ⟨rfl, h2, k2⟩
          go_wp2
          obtain ⟨s7, b7⟩ := st_move hst k2 h2
          go_roundw
          case rel =>
            refine ⟨u.drop (escT u).2, s7, hbw.trans b7, ?_⟩
            have := HQ.out
            rw [badR, if_neg h41, if_pos hez, badR_skip] at this
            exact this
          case measure =>
            rw [HP.out, at_pos h2]
            simp only [List.length_cons, List.length_drop]
            omega
end
end Go.Proofs.YtbfgnfcecfjlnaaGreatDoor
