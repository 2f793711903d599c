/- The cutter's way over a string. -/
import Derived.Test.YtdibldcnklgcjaaGreatDoorUrl
namespace Go.Proofs.YtdibldcnklgcjaaGreatDoor
open Go.RowKit
set_option maxRecDepth 100000

section
variable {w w1 w2 : World} {b : Nat} {v out : Value} {xs l l' : List Int} {ts : List Tok}

/-- A backslash and a newline: both are gone by. -/
theorem quoEsc_line {B : Nat} (t : List Int) (h : At w b v out xs (92 :: 10 :: t)) (fx : Fine xs) :
    Calls Tryz.prog 50 #[.pointer (some ⟨b, 0, none⟩), .pointer (some ⟨B, 0, none⟩)] w fun e w' => e = .returned (.tuple #[]) ∧ At w' b v out xs t ∧ Kept b w w' := by
  have he := escB_w h fx
  have ez : escB (92 :: 10 :: t) = false := by simp [escB, hd]
  rw [ez] at he
  obtain ⟨p, hc1, hf1, hp9, hset⟩ := at_raw h fx
  go_enter Tryz.func50, Tryz.ntmps50
  go_wp2_with (go_at_call 54; fail)
  refine (he).mono ?_
  rintro e w' ⟨rfl, m, rfl⟩
  obtain ⟨p2, hc2, hf2, hp2, hset2⟩ := at_raw (at_drew h m) fx
  have hset3 := hset2 2 (p2 + 2) rfl (by simp)
  have ep : p2 = p := by
    have e1 : (w.drewN m).cell? ⟨b, 1, none⟩ = w.cell? ⟨b, 1, none⟩ := rfl
    rw [e1, hc1] at hc2
    simp at hc2
    omega
  subst ep
  clear hset hset2 hc2
  go_wp2
  go_end0
  exact ⟨rfl, hset3, (Kept.drewN b w m).setCell 1 _⟩

theorem at_len (h : At w b v out xs l) (fx : Fine xs) : ∃ (a : Option Addr) (cap p : Nat), w.cell? ⟨b, 0, none⟩ = some (.slice a xs.length cap) ∧ w.cell? ⟨b, 1, none⟩ = some (.int .i64 p) ∧ xs.length = p + l.length ∧ xs.length ≤ 1000000000 ∧ xs.length ≤ cap := by
  obtain ⟨p, hb, hr, ho, hp, rfl⟩ := h
  obtain ⟨a, cap, rfl, hcap, _⟩ := hr
  exact ⟨a, cap, p, (cells3 hb).1, (cells3 hb).2.1, by simp; omega, fx.1, hcap⟩

/-- A backslash at the end. -/
theorem quoEsc_end {B : Nat} (h : At w b v out xs [92]) (fx : Fine xs) :
    Calls Tryz.prog 50 #[.pointer (some ⟨b, 0, none⟩), .pointer (some ⟨B, 0, none⟩)] w fun e w' => e = .returned (.tuple #[]) ∧ At w' b v out xs [] ∧ Kept b w w' := by
  have he := escB_w h fx
  have ez : escB [92] = true := by decide
  rw [ez] at he
  have hn := fun m => next_r h fx 92 [] rfl m
  obtain ⟨a, cap, p, hc0, hc1, hlen, hl9, hcap⟩ := at_len h fx
  have hq : ((p : Int) + 1 == (xs.length : Int)) = true := by simp at hlen ⊢; omega
  have hp9 : p ≤ 1000000000 := by omega
  clear hlen
  go_enter Tryz.func50, Tryz.ntmps50
  go_wp2_with (go_at_call 54; fail)
  refine (he).mono ?_
  rintro e w' ⟨rfl, m, rfl⟩
  go_wp2
  go_quiet (fail)
  go_wp2_with (go_at_call 49; fail)
  refine (hn _).mono ?_
  rintro e w2 ⟨rfl, h2, k2⟩
  go_wp2
  go_end0
  exact ⟨rfl, h2, k2⟩

set_option maxHeartbeats 1000000 in
set_option maxRecDepth 100000 in
theorem quoEsc_any {B : Nat} {ns : List Int} (t : List Int) (h : At w b v out xs (92 :: t)) (fx : Fine xs) (h0 : t ≠ []) (h1 : hd t 0 ≠ 10) (hw : Wr B (bytesZ ns) w) (hlt : b < B) (hlen2 : ns.length ≤ 1000000000) :
    Calls Tryz.prog 50 #[.pointer (some ⟨b, 0, none⟩), .pointer (some ⟨B, 0, none⟩)] w fun e w' => e = .returned (.tuple #[]) ∧ ∃ w2, At w2 b v out xs (t.drop (escT t).2) ∧ Kept b w w2 ∧ Wr B (bytesZ (ns ++ [(escT t).1])) w' ∧ Below B w2 w' := by
  have he := escB_w h fx
  have ez : escB (92 :: t) = true := by simp [escB]; exact ⟨rfl, h1⟩
  rw [ez] at he
  have hn := fun m => escape_r 92 t h rfl fx m
  have hc32 := char_32 (escT_char (fun d hd => at_chars fx h d (List.mem_cons_of_mem _ hd)))
  have hbz := bytesZ_len ns
  obtain ⟨a, cap, p, hc0, hc1, hlen, hl9, hcap⟩ := at_len h fx
  have hq : ((p : Int) + 1 == (xs.length : Int)) = false := by
    have : 0 < t.length := List.length_pos_iff.2 h0
    simp at hlen ⊢
    omega
  have hp9 : p ≤ 1000000000 := by omega
  clear hlen
  go_enter Tryz.func50, Tryz.ntmps50
  go_wp2_with (go_at_call 54; fail)
  refine (he).mono ?_
  rintro e w' ⟨rfl, m, rfl⟩
  go_wp2
  go_quiet (fail)
  go_wp2
  go_region_with (first | (go_at_call 73; refine (hn _).mono ?_; rintro e w2 ⟨rfl, h2, k2⟩) | (go_at_call 51; refine (wr_rune B (bytesZ ns) ((escT t).1) hc32.1 hc32.2 w2 (wr_kept hw k2 hlt) (by omega)).mono ?_; rintro e w3 ⟨⟨rn, rfl⟩, hw3, hb3⟩))
  all_goals go_wp2
  all_goals go_end0
  all_goals exact ⟨rfl, w2, h2, k2, by rw [bytesZ_app, bytesZ_one]; exact hw3, hb3⟩

set_option maxHeartbeats 1000000 in
theorem quoted_no (hs : St w b v out xs l ts) (fx : Fine xs) (hc : quoteB l = false) :
    Calls Tryz.prog 21 #[.pointer (some ⟨b, 0, none⟩)] w fun e w' => e = .returned (.bool false) ∧ St w' b v out xs l ts ∧ Below b w w' := by
  have ha := ahead_w hs.1 fx 0 0 rfl (by omega)
  unfold quoteB at hc
  generalize hd l 0 = c0 at *
  have h34 : c0 ≠ 34 := by intro e; rw [e] at hc; exact absurd hc (by decide)
  have h39 : c0 ≠ 39 := by intro e; rw [e] at hc; exact absurd hc (by decide)
  have e1 : (c0 != 34) = true := by simpa using h34
  have e2 : (c0 != 39) = true := by simpa using h39
  clear hc
  go_enter Tryz.func21, Tryz.ntmps21
  go_wp2_with (go_at_call 46; fail)
  refine (ha).mono ?_
  rintro e w' ⟨rfl, m, rfl⟩
  go_wp2
  go_ret
  exact ⟨rfl, st_drew hs _⟩

def consL (ns : List Int) (r : Option (List Int) × List Int) : Option (List Int) × List Int := (r.1.map (ns ++ ·), r.2)
theorem consL_nil (r : Option (List Int) × List Int) : consL [] r = r := by
  obtain ⟨a, c⟩ := r
  cases a <;> simp [consL]
theorem consL_cons (ns : List Int) (x : Int) (r : Option (List Int) × List Int) : consL ns (consO x r) = consL (ns ++ [x]) r := by
  obtain ⟨a, c⟩ := r
  cases a <;> simp [consL, consO]
def QuoGo (w1 w : World) (b : Nat) (v out : Value) (xs t : List Int) (e : Int) (ts : List Tok) (wr : World) : Prop :=
  ∃ l' ns, St wr b v out xs l' ts ∧ Kept b w1 wr ∧ Below b w wr ∧ Wr w1.heap.size (bytesZ ns) wr ∧ consL ns (quoZ e l' 0) = quoZ e t 0 ∧ ns.length + l'.length ≤ xs.length
theorem strZ_some {c : Int} {t : List Int} {ns r : List Int} (h : quoZ c t 0 = (some ns, r)) : strZ (c :: t) = (plainTok 5 ns, r) := by
  unfold strZ
  have e : quoZ (hd (c :: t) 0) ((c :: t).drop 1) 0 = (some ns, r) := h
  rw [e]
theorem strZ_none {c : Int} {t : List Int} {r : List Int} (h : quoZ c t 0 = (none, r)) : strZ (c :: t) = (plainTok 6 [], r) := by
  unfold strZ
  have e : quoZ (hd (c :: t) 0) ((c :: t).drop 1) 0 = (none, r) := h
  rw [e]

set_option maxHeartbeats 4000000 in
set_option maxRecDepth 100000 in
theorem quoted_yes (hs : St w b v out xs l ts) (fx : Fine xs) (hts : ts.length ≤ 1000000000) (hc : quoteB l = true) :
    Calls Tryz.prog 21 #[.pointer (some ⟨b, 0, none⟩)] w fun e w' => e = .returned (.bool true) ∧ ∃ out', St w' b v out' xs ((strZ l).2) (ts ++ [(strZ l).1]) ∧ Below b w w' := by
  have mixed : Tryz.prog.follows Departure.mixedOrders = true := by kernel_rfl
  obtain ⟨e0, t, rfl⟩ : ∃ c t, l = c :: t := by
    cases l with
    | nil => exact absurd hc (by decide)
    | cons c t => exact ⟨c, t, rfl⟩
  have hfx := fx.1
  have ha := ahead_w hs.1 fx 0 0 rfl (by omega)
  have ee : hd (e0 :: t) 0 = e0 := rfl
  rw [ee] at ha
  have hn := fun m => next_r hs.1 fx e0 t rfl m
  have hq : e0 = 34 ∨ e0 = 39 := by simpa [quoteB, hd] using hc
  have hne : e0 ≠ 10 ∧ e0 ≠ 92 := by omega
  clear hc
  rcases hq with rfl | rfl
  · go_enter Tryz.func21, Tryz.ntmps21
    go_wp2_with (go_at_call 46; fail)
    refine (ha).mono ?_
    rintro e w' ⟨rfl, m, rfl⟩
    go_wp2_with (go_at_call 49; fail)
    refine (hn _).mono ?_
    rintro e w1 ⟨rfl, h1, k1⟩
    obtain ⟨s1, q1⟩ := st_move hs k1 h1
    have hlt := at_lt h1
    clear hn ha
    go_wp2
    go_loopw [] (fun wr => QuoGo w1 w b v out xs t 34 ts wr) (fun wr => xs.length - posOf wr b)
    case atStart =>
      have hal : Below w1.heap.size w1 (w1.alloc (.cells #[.pointer none, .slice none 0 0] 108)) := (Below.refl _ w1).alloc (Nat.le_refl _) _
      obtain ⟨s2, q2⟩ := st_below s1 hal
      refine ⟨_, [], s2, Kept.of_below hal, q1.trans q2, wr_new w1, consL_nil _, ?_⟩
      have := (at_suf h1).length_le
      simpa using this
    case round =>
      obtain ⟨l', ns, hst, hk, hbw, hw, hT, hlen⟩ := hrel
      have hat := hst.1
      have HP : Hid (xs.length - posOf wr b = l'.length) := at_pos hat
      have HT : Hid (consL ns (quoZ 34 l' 0) = quoZ 34 t 0) := hT
      have hbz := bytesZ_len ns
      clear hT
      have hdn := done_w hat fx
      have ha := fun m => ahead_r hat fx 0 0 rfl (by omega) m
      cases l' with
      | nil =>
        have HN : Hid (strZ (34 :: t) = (plainTok 5 ns, List.drop 1 [])) := by
          refine strZ_some ?_
          rw [← HT.out]
          simp [consL, quoZ]
        obtain ⟨a, cap, p, hc0, hc1, hf1, hp, hl9, hcap, hset⟩ := at_least hst.1 fx
        have HS : Hid (∀ (n : Nat) (q : Int), q = min ((p : Int) + 1) xs.length → At ((wr.drewN n).setCell ⟨b, 1, none⟩ (.int .i64 q)) b v out xs (List.drop 1 ([]))) := hset
        clear hset
        go_wp2_with (go_at_call 28; fail)
        refine (hdn).mono ?_
        rintro e w' ⟨rfl, m, rfl⟩
        go_wp2
        go_region
        have hq7 : (if (xs.length : Int) < (p : Int) + 1 then (xs.length : Int) else (p : Int) + 1) = min ((p : Int) + 1) (xs.length : Int) := by split <;> omega
        have hset7 := HS.out (m + 1) (if (xs.length : Int) < (p : Int) + 1 then (xs.length : Int) else (p : Int) + 1) hq7
        have k7 := (Kept.drewN b wr (m + 1)).setCell 1 (.int .i64 (if (xs.length : Int) < (p : Int) + 1 then (xs.length : Int) else (p : Int) + 1))
        obtain ⟨s7, b7⟩ := st_move hst k7 hset7
        have hw7 := wr_kept hw k7 hlt
        clear hset7 hq7 k7
        generalize ((wr.drewN (m + 1)).setCell ⟨b, 1, none⟩ (.int .i64 (if (xs.length : Int) < (p : Int) + 1 then (xs.length : Int) else (p : Int) + 1))) = W7 at *
        generalize (if (xs.length : Int) < (p : Int) + 1 then (xs.length : Int) else (p : Int) + 1) = q7 at *
        go_wp2_with (go_at_call 52; fail)
        refine (wr_string w1.heap.size (bytesZ ns) W7 hw7).mono ?_
        rintro e w8 ⟨rfl, hb8⟩
        obtain ⟨s8, q8⟩ := st_low s1 s7 hb8
        have ht := tell_t s8 5 ns hts
        go_wp2_with (go_at_call 48; fail)
        refine (ht).mono ?_
        rintro e w9 ⟨rfl, out', s9, b9⟩
        go_wp2
        go_ret
        exact ⟨rfl, out', by rw [HN.out]; exact s9, hbw.trans (b7.trans (q8.trans b9))⟩
      | cons c u =>
        have ed : decide (c :: u = []) = false := by simp
        rw [ed] at hdn
        have ec : hd (c :: u) 0 = c := rfl
        rw [ec] at ha
        by_cases hce : c = 34
        · subst hce
          have HN : Hid (strZ (34 :: t) = (plainTok 5 ns, List.drop 1 (34 :: u))) := by
            refine strZ_some ?_
            rw [← HT.out]
            simp [consL, quoZ]
          obtain ⟨a, cap, p, hc0, hc1, hf1, hp, hl9, hcap, hset⟩ := at_least hst.1 fx
          have HS : Hid (∀ (n : Nat) (q : Int), q = min ((p : Int) + 1) xs.length → At ((wr.drewN n).setCell ⟨b, 1, none⟩ (.int .i64 q)) b v out xs (List.drop 1 (34 :: u))) := hset
          clear hset
          go_wp2_with (go_at_call 28; fail)
          refine (hdn).mono ?_
          rintro e w' ⟨rfl, m, rfl⟩
          go_wp2_with (go_at_call 46; fail)
          refine (ha _).mono ?_
          rintro e w' ⟨rfl, m2, rfl⟩
          go_wp2
          go_region
          have hq7 : (if (xs.length : Int) < (p : Int) + 1 then (xs.length : Int) else (p : Int) + 1) = min ((p : Int) + 1) (xs.length : Int) := by split <;> omega
          have hset7 := HS.out (m2 + 1) (if (xs.length : Int) < (p : Int) + 1 then (xs.length : Int) else (p : Int) + 1) hq7
          have k7 := (Kept.drewN b wr (m2 + 1)).setCell 1 (.int .i64 (if (xs.length : Int) < (p : Int) + 1 then (xs.length : Int) else (p : Int) + 1))
          obtain ⟨s7, b7⟩ := st_move hst k7 hset7
          have hw7 := wr_kept hw k7 hlt
          clear hset7 hq7 k7
          generalize ((wr.drewN (m2 + 1)).setCell ⟨b, 1, none⟩ (.int .i64 (if (xs.length : Int) < (p : Int) + 1 then (xs.length : Int) else (p : Int) + 1))) = W7 at *
          generalize (if (xs.length : Int) < (p : Int) + 1 then (xs.length : Int) else (p : Int) + 1) = q7 at *
          go_wp2_with (go_at_call 52; fail)
          refine (wr_string w1.heap.size (bytesZ ns) W7 hw7).mono ?_
          rintro e w8 ⟨rfl, hb8⟩
          obtain ⟨s8, q8⟩ := st_low s1 s7 hb8
          have ht := tell_t s8 5 ns hts
          go_wp2_with (go_at_call 48; fail)
          refine (ht).mono ?_
          rintro e w9 ⟨rfl, out', s9, b9⟩
          go_wp2
          go_ret
          exact ⟨rfl, out', by rw [HN.out]; exact s9, hbw.trans (b7.trans (q8.trans b9))⟩
        · have ece : (c == 34) = false := by simpa using hce
          by_cases h10 : c = 10
          · subst h10
            have HN : Hid (strZ (34 :: t) = (plainTok 6 [], 10 :: u)) := by
              refine strZ_none ?_
              rw [← HT.out]
              simp [consL, quoZ]
            go_wp2_with (go_at_call 28; fail)
            refine (hdn).mono ?_
            rintro e w' ⟨rfl, m, rfl⟩
            go_wp2_with (go_at_call 46; fail)
            refine (ha _).mono ?_
            rintro e w' ⟨rfl, m2, rfl⟩
            go_wp2_with (go_at_call 46; fail)
            refine (ha _).mono ?_
            rintro e w' ⟨rfl, m3, rfl⟩
            obtain ⟨s6, q6⟩ := st_drew hst m3
            have ht := tell_k s6 6 hts
            go_wp2_with (go_at_call 48; fail)
            refine (ht).mono ?_
            rintro e w9 ⟨rfl, out', s9, b9⟩
            go_wp2
            go_ret
            exact ⟨rfl, out', by rw [HN.out]; exact s9, hbw.trans (q6.trans b9)⟩
          · have e10 : (c == 10) = false := by simpa using h10
            by_cases h92 : c = 92
            · subst h92
              by_cases hu0 : u = []
              · subst hu0
                go_wp2_with (go_at_call 28; fail)
                refine (hdn).mono ?_
                rintro e w' ⟨rfl, m, rfl⟩
                go_wp2_with (go_at_call 46; fail)
                refine (ha _).mono ?_
                rintro e w' ⟨rfl, m2, rfl⟩
                go_wp2_with (go_at_call 46; fail)
                refine (ha _).mono ?_
                rintro e w' ⟨rfl, m3, rfl⟩
                go_wp2_with (go_at_call 46; fail)
                refine (ha _).mono ?_
                rintro e w' ⟨rfl, m4, rfl⟩
                have hqe := quoEsc_end (B := w1.heap.size) (at_drew hat m4) fx
                go_wp2_with (go_at_call 50; fail)
                refine (hqe).mono ?_
                rintro e w2 ⟨rfl, h2, k2⟩
                have k2' : Kept b wr w2 := (Kept.drewN b wr m4).trans k2
                obtain ⟨s2, q2⟩ := st_move hst k2' h2
                go_wp2
                go_roundw
                case rel =>
                  refine ⟨[], ns, s2, hk.trans k2', hbw.trans q2, wr_kept hw k2' hlt, ?_, ?_⟩
                  · have := HT.out
                    rw [quoZ, if_neg (by decide), if_neg (by decide), if_pos rfl, if_neg (by decide), if_pos rfl] at this
                    exact this
                  · simp at hlen ⊢; omega
                case measure =>
                  rw [HP.out, at_pos s2.1]
                  simp only [List.length_cons]; omega
              · by_cases hu1 : hd u 0 = 10
                · obtain ⟨u2, rfl⟩ : ∃ u2, u = 10 :: u2 := by
                    obtain ⟨c5, u5, rfl⟩ := List.exists_cons_of_ne_nil hu0
                    have : c5 = 10 := hu1
                    exact ⟨u5, by rw [this]⟩
                  go_wp2_with (go_at_call 28; fail)
                  refine (hdn).mono ?_
                  rintro e w' ⟨rfl, m, rfl⟩
                  go_wp2_with (go_at_call 46; fail)
                  refine (ha _).mono ?_
                  rintro e w' ⟨rfl, m2, rfl⟩
                  go_wp2_with (go_at_call 46; fail)
                  refine (ha _).mono ?_
                  rintro e w' ⟨rfl, m3, rfl⟩
                  go_wp2_with (go_at_call 46; fail)
                  refine (ha _).mono ?_
                  rintro e w' ⟨rfl, m4, rfl⟩
                  have hqe := quoEsc_line (B := w1.heap.size) u2 (at_drew hat m4) fx
                  go_wp2_with (go_at_call 50; fail)
                  refine (hqe).mono ?_
                  rintro e w2 ⟨rfl, h2, k2⟩
                  have k2' : Kept b wr w2 := (Kept.drewN b wr m4).trans k2
                  obtain ⟨s2, q2⟩ := st_move hst k2' h2
                  go_wp2
                  go_roundw
                  case rel =>
                    refine ⟨u2, ns, s2, hk.trans k2', hbw.trans q2, wr_kept hw k2' hlt, ?_, ?_⟩
                    · have := HT.out
                      rw [quoZ, if_neg (by decide), if_neg (by decide), if_pos rfl, if_pos hu1, quoZ_skip] at this
                      exact this
                    · simp at hlen ⊢; omega
                  case measure =>
                    rw [HP.out, at_pos s2.1]
                    simp only [List.length_cons]; omega
                · have hdl : (u.drop (escT u).2).length ≤ u.length := by simp
                  go_wp2_with (go_at_call 28; fail)
                  refine (hdn).mono ?_
                  rintro e w' ⟨rfl, m, rfl⟩
                  go_wp2_with (go_at_call 46; fail)
                  refine (ha _).mono ?_
                  rintro e w' ⟨rfl, m2, rfl⟩
                  go_wp2_with (go_at_call 46; fail)
                  refine (ha _).mono ?_
                  rintro e w' ⟨rfl, m3, rfl⟩
                  go_wp2_with (go_at_call 46; fail)
                  refine (ha _).mono ?_
                  rintro e w' ⟨rfl, m4, rfl⟩
                  have hqe := quoEsc_any (ns := ns) u (at_drew hat m4) fx hu0 hu1 (wr_kept hw (Kept.drewN b wr m4) hlt) hlt (by omega)
                  go_wp2_with (go_at_call 50; fail)
                  refine (hqe).mono ?_
                  rintro e w3 ⟨rfl, w2, h2, k2, hw3, hb3⟩
                  have k2' : Kept b wr w2 := (Kept.drewN b wr m4).trans k2
                  obtain ⟨s2, q2⟩ := st_move hst k2' h2
                  obtain ⟨s3, q3⟩ := st_low s1 s2 hb3
                  go_wp2
                  go_roundw
                  case rel =>
                    refine ⟨u.drop (escT u).2, ns ++ [(escT u).1], s3, (hk.trans k2').then hb3, hbw.trans (q2.trans q3), hw3, ?_, ?_⟩
                    · have := HT.out
                      rw [quoZ, if_neg (by decide), if_neg (by decide), if_pos rfl, if_neg hu1, if_neg hu0, consL_cons, quoZ_skip] at this
                      exact this
                    · simp at hlen ⊢; omega
                  case measure =>
                    rw [HP.out, at_pos s3.1]
                    simp only [List.length_cons, List.length_drop]; omega
            · have e92 : (c == 92) = false := by simpa using h92
              have hnx := fun n => next_r hat fx c u rfl n
              have hc32 := char_32 (at_chars fx hat c (by simp))
              go_wp2_with (go_at_call 28; fail)
              refine (hdn).mono ?_
              rintro e w' ⟨rfl, m, rfl⟩
              go_wp2_with (go_at_call 46; fail)
              refine (ha _).mono ?_
              rintro e w' ⟨rfl, m2, rfl⟩
              go_wp2_with (go_at_call 46; fail)
              refine (ha _).mono ?_
              rintro e w' ⟨rfl, m3, rfl⟩
              go_wp2_with (go_at_call 46; fail)
              refine (ha _).mono ?_
              rintro e w' ⟨rfl, m4, rfl⟩
              go_wp2_with (go_at_call 49; fail)
              refine (hnx _).mono ?_
              rintro e w2 ⟨rfl, h2, k2⟩
              have hw2 := wr_kept hw k2 hlt
              go_wp2_with (go_at_call 51; fail)
              refine (wr_rune w1.heap.size (bytesZ ns) c hc32.1 hc32.2 w2 hw2 (by omega)).mono ?_
              rintro e w3 ⟨⟨rn, rfl⟩, hw3, hb3⟩
              obtain ⟨s2, q2⟩ := st_move hst k2 h2
              obtain ⟨s3, q3⟩ := st_low s1 s2 hb3
              go_wp2
              go_roundw
              case rel =>
                refine ⟨u, ns ++ [c], s3, (hk.trans k2).then hb3, hbw.trans (q2.trans q3), ?_, ?_, ?_⟩
                · rw [bytesZ_app, bytesZ_one]; exact hw3
                · have := HT.out
                  rw [quoZ, if_neg hce, if_neg h10, if_neg h92, consL_cons] at this
                  exact this
                · simp at hlen ⊢; omega
              case measure =>
                rw [HP.out, at_pos s3.1]
                simp only [List.length_cons]; omega
  · go_enter Tryz.func21, Tryz.ntmps21
    go_wp2_with (go_at_call 46; fail)
    refine (ha).mono ?_
    rintro e w' ⟨rfl, m, rfl⟩
    go_wp2_with (go_at_call 49; fail)
    refine (hn _).mono ?_
    rintro e w1 ⟨rfl, h1, k1⟩
    obtain ⟨s1, q1⟩ := st_move hs k1 h1
    have hlt := at_lt h1
    clear hn ha
    go_wp2
    go_loopw [] (fun wr => QuoGo w1 w b v out xs t 39 ts wr) (fun wr => xs.length - posOf wr b)
    case atStart =>
      have hal : Below w1.heap.size w1 (w1.alloc (.cells #[.pointer none, .slice none 0 0] 108)) := (Below.refl _ w1).alloc (Nat.le_refl _) _
      obtain ⟨s2, q2⟩ := st_below s1 hal
      refine ⟨_, [], s2, Kept.of_below hal, q1.trans q2, wr_new w1, consL_nil _, ?_⟩
      have := (at_suf h1).length_le
      simpa using this
    case round =>
      obtain ⟨l', ns, hst, hk, hbw, hw, hT, hlen⟩ := hrel
      have hat := hst.1
      have HP : Hid (xs.length - posOf wr b = l'.length) := at_pos hat
      have HT : Hid (consL ns (quoZ 39 l' 0) = quoZ 39 t 0) := hT
      have hbz := bytesZ_len ns
      clear hT
      have hdn := done_w hat fx
      have ha := fun m => ahead_r hat fx 0 0 rfl (by omega) m
      cases l' with
      | nil =>
        have HN : Hid (strZ (39 :: t) = (plainTok 5 ns, List.drop 1 [])) := by
          refine strZ_some ?_
          rw [← HT.out]
          simp [consL, quoZ]
        obtain ⟨a, cap, p, hc0, hc1, hf1, hp, hl9, hcap, hset⟩ := at_least hst.1 fx
        have HS : Hid (∀ (n : Nat) (q : Int), q = min ((p : Int) + 1) xs.length → At ((wr.drewN n).setCell ⟨b, 1, none⟩ (.int .i64 q)) b v out xs (List.drop 1 ([]))) := hset
        clear hset
        go_wp2_with (go_at_call 28; fail)
        refine (hdn).mono ?_
        rintro e w' ⟨rfl, m, rfl⟩
        go_wp2
        go_region
        have hq7 : (if (xs.length : Int) < (p : Int) + 1 then (xs.length : Int) else (p : Int) + 1) = min ((p : Int) + 1) (xs.length : Int) := by split <;> omega
        have hset7 := HS.out (m + 1) (if (xs.length : Int) < (p : Int) + 1 then (xs.length : Int) else (p : Int) + 1) hq7
        have k7 := (Kept.drewN b wr (m + 1)).setCell 1 (.int .i64 (if (xs.length : Int) < (p : Int) + 1 then (xs.length : Int) else (p : Int) + 1))
        obtain ⟨s7, b7⟩ := st_move hst k7 hset7
        have hw7 := wr_kept hw k7 hlt
        clear hset7 hq7 k7
        generalize ((wr.drewN (m + 1)).setCell ⟨b, 1, none⟩ (.int .i64 (if (xs.length : Int) < (p : Int) + 1 then (xs.length : Int) else (p : Int) + 1))) = W7 at *
        generalize (if (xs.length : Int) < (p : Int) + 1 then (xs.length : Int) else (p : Int) + 1) = q7 at *
        go_wp2_with (go_at_call 52; fail)
        refine (wr_string w1.heap.size (bytesZ ns) W7 hw7).mono ?_
        rintro e w8 ⟨rfl, hb8⟩
        obtain ⟨s8, q8⟩ := st_low s1 s7 hb8
        have ht := tell_t s8 5 ns hts
        go_wp2_with (go_at_call 48; fail)
        refine (ht).mono ?_
        rintro e w9 ⟨rfl, out', s9, b9⟩
        go_wp2
        go_ret
        exact ⟨rfl, out', by rw [HN.out]; exact s9, hbw.trans (b7.trans (q8.trans b9))⟩
      | cons c u =>
        have ed : decide (c :: u = []) = false := by simp
        rw [ed] at hdn
        have ec : hd (c :: u) 0 = c := rfl
        rw [ec] at ha
        by_cases hce : c = 39
        · subst hce
          have HN : Hid (strZ (39 :: t) = (plainTok 5 ns, List.drop 1 (39 :: u))) := by
            refine strZ_some ?_
            rw [← HT.out]
            simp [consL, quoZ]
          obtain ⟨a, cap, p, hc0, hc1, hf1, hp, hl9, hcap, hset⟩ := at_least hst.1 fx
          have HS : Hid (∀ (n : Nat) (q : Int), q = min ((p : Int) + 1) xs.length → At ((wr.drewN n).setCell ⟨b, 1, none⟩ (.int .i64 q)) b v out xs (List.drop 1 (39 :: u))) := hset
          clear hset
          go_wp2_with (go_at_call 28; fail)
          refine (hdn).mono ?_
          rintro e w' ⟨rfl, m, rfl⟩
          go_wp2_with (go_at_call 46; fail)
          refine (ha _).mono ?_
          rintro e w' ⟨rfl, m2, rfl⟩
          go_wp2
          go_region
          have hq7 : (if (xs.length : Int) < (p : Int) + 1 then (xs.length : Int) else (p : Int) + 1) = min ((p : Int) + 1) (xs.length : Int) := by split <;> omega
          have hset7 := HS.out (m2 + 1) (if (xs.length : Int) < (p : Int) + 1 then (xs.length : Int) else (p : Int) + 1) hq7
          have k7 := (Kept.drewN b wr (m2 + 1)).setCell 1 (.int .i64 (if (xs.length : Int) < (p : Int) + 1 then (xs.length : Int) else (p : Int) + 1))
          obtain ⟨s7, b7⟩ := st_move hst k7 hset7
          have hw7 := wr_kept hw k7 hlt
          clear hset7 hq7 k7
          generalize ((wr.drewN (m2 + 1)).setCell ⟨b, 1, none⟩ (.int .i64 (if (xs.length : Int) < (p : Int) + 1 then (xs.length : Int) else (p : Int) + 1))) = W7 at *
          generalize (if (xs.length : Int) < (p : Int) + 1 then (xs.length : Int) else (p : Int) + 1) = q7 at *
          go_wp2_with (go_at_call 52; fail)
          refine (wr_string w1.heap.size (bytesZ ns) W7 hw7).mono ?_
          rintro e w8 ⟨rfl, hb8⟩
          obtain ⟨s8, q8⟩ := st_low s1 s7 hb8
          have ht := tell_t s8 5 ns hts
          go_wp2_with (go_at_call 48; fail)
          refine (ht).mono ?_
          rintro e w9 ⟨rfl, out', s9, b9⟩
          go_wp2
          go_ret
          exact ⟨rfl, out', by rw [HN.out]; exact s9, hbw.trans (b7.trans (q8.trans b9))⟩
        · have ece : (c == 39) = false := by simpa using hce
          by_cases h10 : c = 10
          · subst h10
            have HN : Hid (strZ (39 :: t) = (plainTok 6 [], 10 :: u)) := by
              refine strZ_none ?_
              rw [← HT.out]
              simp [consL, quoZ]
            go_wp2_with (go_at_call 28; fail)
            refine (hdn).mono ?_
            rintro e w' ⟨rfl, m, rfl⟩
            go_wp2_with (go_at_call 46; fail)
            refine (ha _).mono ?_
            rintro e w' ⟨rfl, m2, rfl⟩
            go_wp2_with (go_at_call 46; fail)
            refine (ha _).mono ?_
            rintro e w' ⟨rfl, m3, rfl⟩
            obtain ⟨s6, q6⟩ := st_drew hst m3
            have ht := tell_k s6 6 hts
            go_wp2_with (go_at_call 48; fail)
            refine (ht).mono ?_
            rintro e w9 ⟨rfl, out', s9, b9⟩
            go_wp2
            go_ret
            exact ⟨rfl, out', by rw [HN.out]; exact s9, hbw.trans (q6.trans b9)⟩
          · have e10 : (c == 10) = false := by simpa using h10
            by_cases h92 : c = 92
            · subst h92
              by_cases hu0 : u = []
              · subst hu0
                go_wp2_with (go_at_call 28; fail)
                refine (hdn).mono ?_
                rintro e w' ⟨rfl, m, rfl⟩
                go_wp2_with (go_at_call 46; fail)
                refine (ha _).mono ?_
                rintro e w' ⟨rfl, m2, rfl⟩
                go_wp2_with (go_at_call 46; fail)
                refine (ha _).mono ?_
                rintro e w' ⟨rfl, m3, rfl⟩
                go_wp2_with (go_at_call 46; fail)
                refine (ha _).mono ?_
                rintro e w' ⟨rfl, m4, rfl⟩
                have hqe := quoEsc_end (B := w1.heap.size) (at_drew hat m4) fx
                go_wp2_with (go_at_call 50; fail)
                refine (hqe).mono ?_
                rintro e w2 ⟨rfl, h2, k2⟩
                have k2' : Kept b wr w2 := (Kept.drewN b wr m4).trans k2
                obtain ⟨s2, q2⟩ := st_move hst k2' h2
                go_wp2
                go_roundw
                case rel =>
                  refine ⟨[], ns, s2, hk.trans k2', hbw.trans q2, wr_kept hw k2' hlt, ?_, ?_⟩
                  · have := HT.out
                    rw [quoZ, if_neg (by decide), if_neg (by decide), if_pos rfl, if_neg (by decide), if_pos rfl] at this
                    exact this
                  · simp at hlen ⊢; omega
                case measure =>
                  rw [HP.out, at_pos s2.1]
                  simp only [List.length_cons]; omega
              · by_cases hu1 : hd u 0 = 10
                · obtain ⟨u2, rfl⟩ : ∃ u2, u = 10 :: u2 := by
                    obtain ⟨c5, u5, rfl⟩ := List.exists_cons_of_ne_nil hu0
                    have : c5 = 10 := hu1
                    exact ⟨u5, by rw [this]⟩
                  go_wp2_with (go_at_call 28; fail)
                  refine (hdn).mono ?_
                  rintro e w' ⟨rfl, m, rfl⟩
                  go_wp2_with (go_at_call 46; fail)
                  refine (ha _).mono ?_
                  rintro e w' ⟨rfl, m2, rfl⟩
                  go_wp2_with (go_at_call 46; fail)
                  refine (ha _).mono ?_
                  rintro e w' ⟨rfl, m3, rfl⟩
                  go_wp2_with (go_at_call 46; fail)
                  refine (ha _).mono ?_
                  rintro e w' ⟨rfl, m4, rfl⟩
                  have hqe := quoEsc_line (B := w1.heap.size) u2 (at_drew hat m4) fx
                  go_wp2_with (go_at_call 50; fail)
                  refine (hqe).mono ?_
                  rintro e w2 ⟨rfl, h2, k2⟩
                  have k2' : Kept b wr w2 := (Kept.drewN b wr m4).trans k2
                  obtain ⟨s2, q2⟩ := st_move hst k2' h2
                  go_wp2
                  go_roundw
                  case rel =>
                    refine ⟨u2, ns, s2, hk.trans k2', hbw.trans q2, wr_kept hw k2' hlt, ?_, ?_⟩
                    · have := HT.out
                      rw [quoZ, if_neg (by decide), if_neg (by decide), if_pos rfl, if_pos hu1, quoZ_skip] at this
                      exact this
                    · simp at hlen ⊢; omega
                  case measure =>
                    rw [HP.out, at_pos s2.1]
                    simp only [List.length_cons]; omega
                · have hdl : (u.drop (escT u).2).length ≤ u.length := by simp
                  go_wp2_with (go_at_call 28; fail)
                  refine (hdn).mono ?_
                  rintro e w' ⟨rfl, m, rfl⟩
                  go_wp2_with (go_at_call 46; fail)
                  refine (ha _).mono ?_
                  rintro e w' ⟨rfl, m2, rfl⟩
                  go_wp2_with (go_at_call 46; fail)
                  refine (ha _).mono ?_
                  rintro e w' ⟨rfl, m3, rfl⟩
                  go_wp2_with (go_at_call 46; fail)
                  refine (ha _).mono ?_
                  rintro e w' ⟨rfl, m4, rfl⟩
                  have hqe := quoEsc_any (ns := ns) u (at_drew hat m4) fx hu0 hu1 (wr_kept hw (Kept.drewN b wr m4) hlt) hlt (by omega)
                  go_wp2_with (go_at_call 50; fail)
                  refine (hqe).mono ?_
                  rintro e w3 ⟨rfl, w2, h2, k2, hw3, hb3⟩
                  have k2' : Kept b wr w2 := (Kept.drewN b wr m4).trans k2
                  obtain ⟨s2, q2⟩ := st_move hst k2' h2
                  obtain ⟨s3, q3⟩ := st_low s1 s2 hb3
                  go_wp2
                  go_roundw
                  case rel =>
                    refine ⟨u.drop (escT u).2, ns ++ [(escT u).1], s3, (hk.trans k2').then hb3, hbw.trans (q2.trans q3), hw3, ?_, ?_⟩
                    · have := HT.out
                      rw [quoZ, if_neg (by decide), if_neg (by decide), if_pos rfl, if_neg hu1, if_neg hu0, consL_cons, quoZ_skip] at this
                      exact this
                    · simp at hlen ⊢; omega
                  case measure =>
                    rw [HP.out, at_pos s3.1]
                    simp only [List.length_cons, List.length_drop]; omega
            · have e92 : (c == 92) = false := by simpa using h92
              have hnx := fun n => next_r hat fx c u rfl n
              have hc32 := char_32 (at_chars fx hat c (by simp))
              go_wp2_with (go_at_call 28; fail)
              refine (hdn).mono ?_
              rintro e w' ⟨rfl, m, rfl⟩
              go_wp2_with (go_at_call 46; fail)
              refine (ha _).mono ?_
              rintro e w' ⟨rfl, m2, rfl⟩
              go_wp2_with (go_at_call 46; fail)
              refine (ha _).mono ?_
              rintro e w' ⟨rfl, m3, rfl⟩
              go_wp2_with (go_at_call 46; fail)
              refine (ha _).mono ?_
              rintro e w' ⟨rfl, m4, rfl⟩
              go_wp2_with (go_at_call 49; fail)
              refine (hnx _).mono ?_
              rintro e w2 ⟨rfl, h2, k2⟩
              have hw2 := wr_kept hw k2 hlt
              go_wp2_with (go_at_call 51; fail)
              refine (wr_rune w1.heap.size (bytesZ ns) c hc32.1 hc32.2 w2 hw2 (by omega)).mono ?_
              rintro e w3 ⟨⟨rn, rfl⟩, hw3, hb3⟩
              obtain ⟨s2, q2⟩ := st_move hst k2 h2
              obtain ⟨s3, q3⟩ := st_low s1 s2 hb3
              go_wp2
              go_roundw
              case rel =>
                refine ⟨u, ns ++ [c], s3, (hk.trans k2).then hb3, hbw.trans (q2.trans q3), ?_, ?_, ?_⟩
                · rw [bytesZ_app, bytesZ_one]; exact hw3
                · have := HT.out
                  rw [quoZ, if_neg hce, if_neg h10, if_neg h92, consL_cons] at this
                  exact this
                · simp at hlen ⊢; omega
              case measure =>
                rw [HP.out, at_pos s3.1]
                simp only [List.length_cons]; omega
end
end Go.Proofs.YtdibldcnklgcjaaGreatDoor
