/- What is left of a URL that is none. -/
import Derived.Test.YtdibldcnklgcjaaGreatDoorHash
namespace Go.Proofs.YtdibldcnklgcjaaGreatDoor
open Go.RowKit
set_option maxRecDepth 100000

section
variable {w w1 w2 : World} {b : Nat} {v out : Value} {xs l l' : List Int} {ts : List Tok}
theorem at_least (h : At w b v out xs l) (fx : Fine xs) : ∃ (a : Option Addr) (cap p : Nat), w.cell? ⟨b, 0, none⟩ = some (.slice a xs.length cap) ∧ w.cell? ⟨b, 1, none⟩ = some (.int .i64 p) ∧ w.frozen? ⟨b, 1, none⟩ = false ∧ p ≤ xs.length ∧ xs.length ≤ 1000000000 ∧ xs.length ≤ cap ∧ ∀ (n : Nat) (q : Int), q = min ((p : Int) + 1) xs.length → At ((w.drewN n).setCell ⟨b, 1, none⟩ (.int .i64 q)) b v out xs (l.drop 1) := by
  have h' := h
  obtain ⟨p, hb, hr, ho, hp, rfl⟩ := h
  have hr' := hr
  obtain ⟨a, cap, rfl, hcap, _⟩ := hr'
  refine ⟨a, cap, p, (cells3 hb).1, (cells3 hb).2.1, free3 hb 1, hp, fx.1, hcap, fun n q hq => ?_⟩
  by_cases hlt : p < xs.length
  · have e : q = ((p + 1 : Nat) : Int) := by omega
    subst e
    have := at_set (at_drew h' n) (q := p + 1) (by omega)
    rw [List.drop_drop]
    exact this
  · have e : q = ((xs.length : Nat) : Int) := by omega
    subst e
    have := at_set (at_drew h' n) (q := xs.length) (by omega)
    have e2 : List.drop 1 (List.drop p xs) = List.drop xs.length xs := by
      rw [List.drop_drop, List.drop_eq_nil_of_le (by omega), List.drop_eq_nil_of_le (by omega)]
    rw [e2]
    exact this

set_option maxHeartbeats 1000000 in
set_option maxRecDepth 100000 in
theorem bad_any (hs : St w b v out xs l ts) (fx : Fine xs) (hts : ts.length ≤ 1000000000) :
    Calls Tryz.prog 84 #[.pointer (some ⟨b, 0, none⟩)] w fun e w' => e = .returned (.bool true) ∧ ∃ out', St w' b v out' xs (badR l 0) (ts ++ [plainTok 8 []]) ∧ Below b w w' := by
  have mixed : Tryz.prog.follows Departure.mixedOrders = true := by kernel_rfl
  go_enter Tryz.func84, Tryz.ntmps84
  go_wp2
  go_loopw [] (fun wr => ∃ l', St wr b v out xs l' ts ∧ Below b w wr ∧ badR l' 0 = badR l 0) (fun wr => xs.length - posOf wr b)
  case atStart => exact ⟨_, hs, Below.refl b w, rfl⟩
  case round =>
    obtain ⟨l', hst, hbw, heq⟩ := hrel
    have HQ : Hid (badR l' 0 = badR l 0) := heq
    have HP : Hid (xs.length - posOf wr b = l'.length) := at_pos hst.1
    clear heq hs
    have hdn := done_w hst.1 fx
    have ha := fun m => ahead_r hst.1 fx 0 0 rfl (by omega) m
    have he := fun m => escB_0 hst.1 fx m
    cases l' with
    | nil =>
      have HN : Hid (badR l 0 = List.drop 1 []) := HQ.out.symm
      clear ha he
      go_wp2_with (go_at_call 28; fail)
      refine (hdn).mono ?_
      rintro e w' ⟨rfl, m, rfl⟩
      obtain ⟨a, cap, p, hc0, hc1, hf1, hp, hl9, hcap, hset⟩ := at_least hst.1 fx
      have HS : Hid (∀ (n : Nat) (q : Int), q = min ((p : Int) + 1) xs.length → At ((wr.drewN n).setCell ⟨b, 1, none⟩ (.int .i64 q)) b v out xs (List.drop 1 ([]))) := hset
      clear hset
      go_wp2
      go_region
      have hq7 : (if (xs.length : Int) < (p : Int) + 1 then (xs.length : Int) else (p : Int) + 1) = min ((p : Int) + 1) (xs.length : Int) := by split <;> omega
      have hset7 := HS.out (m + 1) (if (xs.length : Int) < (p : Int) + 1 then (xs.length : Int) else (p : Int) + 1) hq7
      obtain ⟨s7, b7⟩ := st_move hst ((Kept.drewN b wr (m + 1)).setCell 1 _) hset7
      clear hset7 hq7
      generalize ((wr.drewN (m + 1)).setCell ⟨b, 1, none⟩ (.int .i64 (if (xs.length : Int) < (p : Int) + 1 then (xs.length : Int) else (p : Int) + 1))) = W7 at *
      generalize (if (xs.length : Int) < (p : Int) + 1 then (xs.length : Int) else (p : Int) + 1) = q7 at *
      have ht := tell_k s7 8 hts
      go_wp2_with (go_at_call 48; fail)
      refine (ht).mono ?_
      rintro e w8 ⟨rfl, out', s8, b8⟩
      go_wp2
      go_ret
      exact ⟨rfl, out', by rw [HN.out]; exact s8, hbw.trans (b7.trans b8)⟩
    | cons c u =>
      have ed : decide (c :: u = []) = false := by simp
      rw [ed] at hdn
      have e0 : hd (c :: u) 0 = c := rfl
      rw [e0] at ha
      by_cases h41 : c = 41
      · subst h41
        have HN : Hid (badR l 0 = List.drop 1 (41 :: u)) := by
          have := HQ.out
          rw [badR, if_pos rfl] at this
          exact this.symm
        obtain ⟨a, cap, p, hc0, hc1, hf1, hp, hl9, hcap, hset⟩ := at_least hst.1 fx
        have HS : Hid (∀ (n : Nat) (q : Int), q = min ((p : Int) + 1) xs.length → At ((wr.drewN n).setCell ⟨b, 1, none⟩ (.int .i64 q)) b v out xs (List.drop 1 (41 :: u))) := hset
        clear hset
        go_wp2_with (go_at_call 28; fail)
        refine (hdn).mono ?_
        rintro e w' ⟨rfl, m, rfl⟩
        go_wp2_with (go_at_call 46; fail)
        refine (ha _).mono ?_
        rintro e w' ⟨rfl, m2, rfl⟩
        go_wp2
        go_region
        have hq7 : (if (xs.length : Int) < (p : Int) + 1 then (xs.length : Int) else (p : Int) + 1) = min ((p : Int) + 1) (xs.length : Int) := by split <;> omega
        have hset7 := HS.out (m2 + 1) (if (xs.length : Int) < (p : Int) + 1 then (xs.length : Int) else (p : Int) + 1) hq7
        obtain ⟨s7, b7⟩ := st_move hst ((Kept.drewN b wr (m2 + 1)).setCell 1 _) hset7
        clear hset7 hq7
        generalize ((wr.drewN (m2 + 1)).setCell ⟨b, 1, none⟩ (.int .i64 (if (xs.length : Int) < (p : Int) + 1 then (xs.length : Int) else (p : Int) + 1))) = W7 at *
        generalize (if (xs.length : Int) < (p : Int) + 1 then (xs.length : Int) else (p : Int) + 1) = q7 at *
        have ht := tell_k s7 8 hts
        go_wp2_with (go_at_call 48; fail)
        refine (ht).mono ?_
        rintro e w8 ⟨rfl, out', s8, b8⟩
        go_wp2
        go_ret
        exact ⟨rfl, out', by rw [HN.out]; exact s8, hbw.trans (b7.trans b8)⟩
      · have e41 : (c == 41) = false := by simpa using h41
        cases hez : escB (c :: u)
        · rw [hez] at he
          have hn := fun m => next_r hst.1 fx c u rfl m
          go_wp2_with (go_at_call 28; fail)
          refine (hdn).mono ?_
          rintro e w' ⟨rfl, m, rfl⟩
          go_wp2_with (go_at_call 46; fail)
          refine (ha _).mono ?_
          rintro e w' ⟨rfl, m2, rfl⟩
          go_wp2_with (go_at_call 54; fail)
          refine (he _).mono ?_
          rintro e w' ⟨rfl, m3, rfl⟩
          go_wp2_with (go_at_call 49; fail)
          refine (hn _).mono ?_
          rintro e w2 ⟨rfl, h2, k2⟩
          go_wp2
          obtain ⟨s7, b7⟩ := st_move hst k2 h2
          go_roundw
          case rel =>
            refine ⟨u, s7, hbw.trans b7, ?_⟩
            have := HQ.out
            rw [badR, if_neg h41, if_neg (by simp [hez])] at this
            exact this
          case measure =>
            rw [HP.out, at_pos h2]
            simp only [List.length_cons]
            omega
        · rw [hez] at he
          have hn := fun m => escape_r c u hst.1 rfl fx m
          go_wp2_with (go_at_call 28; fail)
          refine (hdn).mono ?_
          rintro e w' ⟨rfl, m, rfl⟩
          go_wp2_with (go_at_call 46; fail)
          refine (ha _).mono ?_
          rintro e w' ⟨rfl, m2, rfl⟩
          go_wp2_with (go_at_call 54; fail)
          refine (he _).mono ?_
          rintro e w' ⟨rfl, m3, rfl⟩
          go_wp2_with (go_at_call 73; fail)
          refine (hn _).mono ?_
          rintro e w2 ⟨rfl, h2, k2⟩
          go_wp2
          obtain ⟨s7, b7⟩ := st_move hst k2 h2
          go_roundw
          case rel =>
            refine ⟨u.drop (escT u).2, s7, hbw.trans b7, ?_⟩
            have := HQ.out
            rw [badR, if_neg h41, if_pos hez, badR_skip] at this
            exact this
          case measure =>
            rw [HP.out, at_pos h2]
            simp only [List.length_cons, List.length_drop]
            omega
end
end Go.Proofs.YtdibldcnklgcjaaGreatDoor
