/- The cutter's ways over hashes, keywords and strings. -/
import Derived.Test.YtdibldcnklgcjaaGreatDoorSpaces
namespace Go.Proofs.YtdibldcnklgcjaaGreatDoor
open Go.RowKit
set_option maxRecDepth 100000

section
variable {w w1 w2 : World} {b : Nat} {v out : Value} {xs l l' : List Int} {ts : List Tok}
theorem tell_m (hs : St w b v out xs l ts) (k : Int) (t u : List Int) (wh fl : Bool) (hts : ts.length ≤ 1000000000) :
    Calls Tryz.prog 48 #[.pointer (some ⟨b, 0, none⟩), .agg #[.int .i64 k, .string (strOfNums (bytesZ t)), .string (strOfNums (bytesZ u)), .bool wh, .bool fl]] w fun e w' => e = .returned (.bool true) ∧ ∃ out', St w' b v out' xs l (ts ++ [mkTok k t u wh fl]) ∧ Below b w w' := tell_any hs (mkTok k t u wh fl) hts
theorem tell_h (hs : St w b v out xs l ts) (k : Int) (t : List Int) (wh fl : Bool) (hts : ts.length ≤ 1000000000) :
    Calls Tryz.prog 48 #[.pointer (some ⟨b, 0, none⟩), .agg #[.int .i64 k, .string (strOfNums (bytesZ t)), .string ⟨#[]⟩, .bool wh, .bool fl]] w fun e w' => e = .returned (.bool true) ∧ ∃ out', St w' b v out' xs l (ts ++ [mkTok k t [] wh fl]) ∧ Below b w w' := tell_any hs (mkTok k t [] wh fl) hts
theorem nameB_0 (h : At w b v out xs l) (fx : Fine xs) (n : Nat) : Calls Tryz.prog 55 #[.pointer (some ⟨b, 0, none⟩), .int .i64 0] (w.drewN n) fun e w' => e = .returned (.bool (nameB l)) ∧ ∃ m, w' = w.drewN m := nameB_r h fx 0 0 rfl (by omega) n
theorem nameB_w (h : At w b v out xs l) (fx : Fine xs) : Calls Tryz.prog 55 #[.pointer (some ⟨b, 0, none⟩), .int .i64 0] w fun e w' => e = .returned (.bool (nameB l)) ∧ ∃ m, w' = w.drewN m := nameB_0 h fx 0

set_option maxHeartbeats 1000000 in
theorem hash_no (hs : St w b v out xs l ts) (fx : Fine xs) (hc : hashB l = false) :
    Calls Tryz.prog 22 #[.pointer (some ⟨b, 0, none⟩)] w fun e w' => e = .returned (.bool false) ∧ St w' b v out xs l ts ∧ Below b w w' := by
  have ha := ahead_w hs.1 fx 0 0 rfl (by omega)
  have hb := fun m => ahead_r hs.1 fx 1 1 rfl (by omega) m
  have he := fun m => escB_r hs.1 fx 1 1 rfl (by omega) m
  unfold hashB at hc
  generalize hd l 0 = c0 at *
  generalize hd l 1 = c1 at *
  generalize escB (l.drop 1) = e1 at *
  by_cases h0 : c0 = 35
  · subst h0
    have hp : partZ c1 = false := by revert hc; cases partZ c1 <;> simp
    have hq : e1 = false := by revert hc; cases e1 <;> simp
    subst hq
    clear hc
    go_enter Tryz.func22, Tryz.ntmps22
    go_wp2_with (go_at_call 46; fail)
    refine (ha).mono ?_
    rintro e w' ⟨rfl, m, rfl⟩
    go_wp2_with (go_at_call 46; fail)
    refine (hb _).mono ?_
    rintro e w' ⟨rfl, m, rfl⟩
    go_wp2_with (go_at_call 53; fail)
    refine (part_any _ _).mono ?_
    rintro e w' ⟨rfl, rfl⟩
    go_wp2_with (go_at_call 54; fail)
    refine (he _).mono ?_
    rintro e w' ⟨rfl, m, rfl⟩
    go_wp2
    go_ret
    exact ⟨rfl, st_drew hs _⟩
  · have e0 : (c0 == 35) = false := by simpa using h0
    go_enter Tryz.func22, Tryz.ntmps22
    go_wp2_with (go_at_call 46; fail)
    refine (ha).mono ?_
    rintro e w' ⟨rfl, m, rfl⟩
    go_wp2
    go_ret
    exact ⟨rfl, st_drew hs _⟩

set_option maxHeartbeats 1000000 in
theorem hash_yes (hs : St w b v out xs l ts) (fx : Fine xs) (hts : ts.length ≤ 1000000000) (hc : hashB l = true) :
    Calls Tryz.prog 22 #[.pointer (some ⟨b, 0, none⟩)] w fun e w' => e = .returned (.bool true) ∧ ∃ out', St w' b v out' xs ((hashZ (l.drop 1)).2) (ts ++ [(hashZ (l.drop 1)).1]) ∧ Below b w w' := by
  obtain ⟨t, rfl⟩ : ∃ t, l = 35 :: t := by
    cases l with
    | nil => exact absurd hc (by decide)
    | cons c t =>
      simp [hashB, hd] at hc
      exact ⟨t, by rw [hc.1]⟩
  have hb := fun m => ahead_r hs.1 fx 1 1 rfl (by omega) m
  have he := fun m => escB_r hs.1 fx 1 1 rfl (by omega) m
  have ha := ahead_w hs.1 fx 0 0 rfl (by omega)
  have hn := fun m => next_r hs.1 fx 35 t rfl m
  have hq : (partZ (hd (35 :: t) 1) || escB t) = true := by simpa [hashB, hd] using hc
  have e0 : hd (35 :: t) 0 = 35 := rfl
  have e1 : (35 :: t : List Int).drop 1 = t := rfl
  rw [e0] at ha
  rw [e1] at he ⊢
  generalize hd (35 :: t) 1 = c1 at *
  cases hp : partZ c1
  · rw [hp, Bool.false_or] at hq
    rw [hq] at he
    go_enter Tryz.func22, Tryz.ntmps22
    go_wp2_with (go_at_call 46; fail)
    refine (ha).mono ?_
    rintro e w' ⟨rfl, m, rfl⟩
    go_wp2_with (go_at_call 46; fail)
    refine (hb _).mono ?_
    rintro e w' ⟨rfl, m, rfl⟩
    go_wp2_with (go_at_call 53; fail)
    refine (part_any _ _).mono ?_
    rintro e w' ⟨rfl, rfl⟩
    go_wp2_with (go_at_call 54; fail)
    refine (he _).mono ?_
    rintro e w' ⟨rfl, m, rfl⟩
    go_wp2_with (go_at_call 49; fail)
    refine (hn _).mono ?_
    rintro e w3 ⟨rfl, h3, k3⟩
    have hm := nameB_w h3 fx
    go_wp2_with (go_at_call 55; fail)
    refine (hm).mono ?_
    rintro e w' ⟨rfl, m4, rfl⟩
    have hnm := name_any (at_drew h3 m4) fx
    go_wp2_with (go_at_call 56; fail)
    refine (hnm).mono ?_
    rintro e w5 ⟨rfl, h5, k5⟩
    obtain ⟨s5, b5⟩ := st_move hs (k3.trans ((Kept.drewN b w3 m4).trans k5)) h5
    have ht := tell_h s5 4 (nameT t 0) false (nameB t) hts
    go_wp2_with (go_at_call 48; fail)
    refine (ht).mono ?_
    rintro e w6 ⟨rfl, out', s6, b6⟩
    go_wp2
    go_ret
    exact ⟨rfl, out', s6, b5.trans b6⟩
  · go_enter Tryz.func22, Tryz.ntmps22
    go_wp2_with (go_at_call 46; fail)
    refine (ha).mono ?_
    rintro e w' ⟨rfl, m, rfl⟩
    go_wp2_with (go_at_call 46; fail)
    refine (hb _).mono ?_
    rintro e w' ⟨rfl, m, rfl⟩
    go_wp2_with (go_at_call 53; fail)
    refine (part_any _ _).mono ?_
    rintro e w' ⟨rfl, rfl⟩
    go_wp2_with (go_at_call 49; fail)
    refine (hn _).mono ?_
    rintro e w3 ⟨rfl, h3, k3⟩
    have hm := nameB_w h3 fx
    go_wp2_with (go_at_call 55; fail)
    refine (hm).mono ?_
    rintro e w' ⟨rfl, m4, rfl⟩
    have hnm := name_any (at_drew h3 m4) fx
    go_wp2_with (go_at_call 56; fail)
    refine (hnm).mono ?_
    rintro e w5 ⟨rfl, h5, k5⟩
    obtain ⟨s5, b5⟩ := st_move hs (k3.trans ((Kept.drewN b w3 m4).trans k5)) h5
    have ht := tell_h s5 4 (nameT t 0) false (nameB t) hts
    go_wp2_with (go_at_call 48; fail)
    refine (ht).mono ?_
    rintro e w6 ⟨rfl, out', s6, b6⟩
    go_wp2
    go_ret
    exact ⟨rfl, out', s6, b5.trans b6⟩

set_option maxHeartbeats 1000000 in
theorem keyword_no (hs : St w b v out xs l ts) (fx : Fine xs) (hc : atB l = false) :
    Calls Tryz.prog 26 #[.pointer (some ⟨b, 0, none⟩)] w fun e w' => e = .returned (.bool false) ∧ St w' b v out xs l ts ∧ Below b w w' := by
  have ha := ahead_w hs.1 fx 0 0 rfl (by omega)
  have he := fun m => nameB_r hs.1 fx 1 1 rfl (by omega) m
  unfold atB at hc
  generalize hd l 0 = c0 at *
  generalize nameB (l.drop 1) = e1 at *
  by_cases h0 : c0 = 64
  · subst h0
    have hq : e1 = false := by revert hc; cases e1 <;> simp
    subst hq
    clear hc
    go_enter Tryz.func26, Tryz.ntmps26
    go_wp2_with (go_at_call 46; fail)
    refine (ha).mono ?_
    rintro e w' ⟨rfl, m, rfl⟩
    go_wp2_with (go_at_call 55; fail)
    refine (he _).mono ?_
    rintro e w' ⟨rfl, m, rfl⟩
    go_wp2
    go_ret
    exact ⟨rfl, st_drew hs _⟩
  · have e0 : (c0 == 64) = false := by simpa using h0
    go_enter Tryz.func26, Tryz.ntmps26
    go_wp2_with (go_at_call 46; fail)
    refine (ha).mono ?_
    rintro e w' ⟨rfl, m, rfl⟩
    go_wp2
    go_ret
    exact ⟨rfl, st_drew hs _⟩

set_option maxHeartbeats 1000000 in
theorem keyword_yes (hs : St w b v out xs l ts) (fx : Fine xs) (hts : ts.length ≤ 1000000000) (hc : atB l = true) :
    Calls Tryz.prog 26 #[.pointer (some ⟨b, 0, none⟩)] w fun e w' => e = .returned (.bool true) ∧ ∃ out', St w' b v out' xs (nameR (l.drop 1) 0) (ts ++ [plainTok 3 (nameT (l.drop 1) 0)]) ∧ Below b w w' := by
  obtain ⟨t, rfl⟩ : ∃ t, l = 64 :: t := by
    cases l with
    | nil => exact absurd hc (by decide)
    | cons c t =>
      simp [atB, hd] at hc
      exact ⟨t, by rw [hc.1]⟩
  have he := fun m => nameB_r hs.1 fx 1 1 rfl (by omega) m
  have ha := ahead_w hs.1 fx 0 0 rfl (by omega)
  have hn := fun m => next_r hs.1 fx 64 t rfl m
  have hq : nameB t = true := by simpa [atB, hd] using hc
  have e0 : hd (64 :: t) 0 = 64 := rfl
  have e1 : (64 :: t : List Int).drop 1 = t := rfl
  rw [e0] at ha
  rw [e1] at he ⊢
  rw [hq] at he
  go_enter Tryz.func26, Tryz.ntmps26
  go_wp2_with (go_at_call 46; fail)
  refine (ha).mono ?_
  rintro e w' ⟨rfl, m, rfl⟩
  go_wp2_with (go_at_call 55; fail)
  refine (he _).mono ?_
  rintro e w' ⟨rfl, m, rfl⟩
  go_wp2_with (go_at_call 49; fail)
  refine (hn _).mono ?_
  rintro e w3 ⟨rfl, h3, k3⟩
  have hnm := name_any h3 fx
  go_wp2_with (go_at_call 56; fail)
  refine (hnm).mono ?_
  rintro e w5 ⟨rfl, h5, k5⟩
  obtain ⟨s5, b5⟩ := st_move hs (k3.trans k5) h5
  have ht := tell_t s5 3 (nameT t 0) hts
  go_wp2_with (go_at_call 48; fail)
  refine (ht).mono ?_
  rintro e w6 ⟨rfl, out', s6, b6⟩
  go_wp2
  go_ret
  exact ⟨rfl, out', s6, b5.trans b6⟩
end
end Go.Proofs.YtdibldcnklgcjaaGreatDoor
