/- The cutter's way over a URL. -/
import Derived.Test.YtdibldcnklgcjaaGreatDoorBad
namespace Go.Proofs.YtdibldcnklgcjaaGreatDoor
open Go.RowKit
set_option maxRecDepth 100000

theorem ctrl_any (c : Int) (w : World) : Calls Tryz.prog 99 #[.int .i32 c] w fun e w' => e = .returned (.bool (ctrlZ c)) ∧ w = w' := by
  have HC : Hid (ctrlZ c = (decide (1 ≤ c ∧ c ≤ 8) || c == 11 || decide (14 ≤ c ∧ c ≤ 31) || c == 127)) := rfl
  rcases (show c < 1 ∨ (1 ≤ c ∧ c ≤ 8) ∨ (9 ≤ c ∧ c ≤ 10) ∨ c = 11 ∨ (12 ≤ c ∧ c ≤ 13) ∨ (14 ≤ c ∧ c ≤ 31) ∨ (32 ≤ c ∧ c ≤ 126) ∨ c = 127 ∨ 128 ≤ c by omega) with h | ⟨h, k⟩ | ⟨h, k⟩ | h | ⟨h, k⟩ | ⟨h, k⟩ | ⟨h, k⟩ | h | h
  all_goals
    try subst h
    try have e1 : (c == 11) = false := by simp; omega
    try have e2 : (c == 127) = false := by simp; omega
    go_enter Tryz.func99, Tryz.ntmps99
    go_wp2
    go_ret
    exact ⟨ret_bool (by rw [HC.out]; first | decide | (rw [Bool.eq_iff_iff]; simp; omega)), rfl⟩

section
variable {w w1 w2 : World} {b : Nat} {v out : Value} {xs l l' : List Int} {ts : List Tok}
theorem urlOn_cons {c : Int} {u : List Int} : urlOn (c :: u) = if blankZ c then false else if ctrlZ c then false else if c = 92 then escB (c :: u) else (c != 34 && c != 39 && c != 40 && c != 41) := by
  unfold urlOn
  rw [if_neg (by simp)]
  rfl

set_option maxHeartbeats 1000000 in
theorem urlOn_r (h : At w b v out xs l) (fx : Fine xs) (n : Nat) :
    Calls Tryz.prog 83 #[.pointer (some ⟨b, 0, none⟩)] (w.drewN n) fun e w' => e = .returned (.bool (urlOn l)) ∧ ∃ m, w' = w.drewN m := by
  have ha := fun m => ahead_r h fx 0 0 rfl (by omega) m
  have hdn := fun m => done_r h fx m
  have he := fun m => escB_0 h fx m
  clear h
  cases l with
  | nil =>
    clear he
    go_enter Tryz.func83, Tryz.ntmps83
    go_wp2_with (go_at_call 46; fail)
    refine (ha _).mono ?_
    rintro e w' ⟨rfl, m, rfl⟩
    go_wp2_with (go_at_call 28; fail)
    refine (hdn _).mono ?_
    rintro e w' ⟨rfl, m2, rfl⟩
    go_wp2
    go_ret
    exact ⟨rfl, _, rfl⟩
  | cons c u =>
    have ed : decide (c :: u = []) = false := by simp
    rw [ed] at hdn
    have e0 : hd (c :: u) 0 = c := rfl
    rw [e0] at ha
    have HU : Hid (urlOn (c :: u) = if blankZ c then false else if ctrlZ c then false else if c = 92 then escB (c :: u) else (c != 34 && c != 39 && c != 40 && c != 41)) := urlOn_cons
    generalize escB (c :: u) = e1 at *
    generalize urlOn (c :: u) = r1 at *
    cases hb : blankZ c
    · cases hk : ctrlZ c
      · by_cases h92 : c = 92
        · subst h92
          go_enter Tryz.func83, Tryz.ntmps83
          go_wp2_with (go_at_call 46; fail)
          refine (ha _).mono ?_
          rintro e w' ⟨rfl, m, rfl⟩
          go_wp2_with (go_at_call 28; fail)
          refine (hdn _).mono ?_
          rintro e w' ⟨rfl, m2, rfl⟩
          go_wp2_with (go_at_call 45; fail)
          refine (blank_any _ _).mono ?_
          rintro e w' ⟨rfl, rfl⟩
          go_wp2_with (go_at_call 99; fail)
          refine (ctrl_any _ _).mono ?_
          rintro e w' ⟨rfl, rfl⟩
          go_wp2_with (go_at_call 54; fail)
          refine (he _).mono ?_
          rintro e w' ⟨rfl, m3, rfl⟩
          go_wp2
          go_ret
          exact ⟨ret_bool (by rw [HU.out, hb, hk]; simp), _, rfl⟩
        · have e92 : (c == 92) = false := by simpa using h92
          have HV : Hid (r1 = (c != 34 && c != 39 && c != 40 && c != 41)) := by
            have := HU.out
            rw [hb, hk, if_neg h92] at this
            exact this
          rcases (show c = 34 ∨ c = 39 ∨ c = 40 ∨ c = 41 ∨ (c ≠ 34 ∧ c ≠ 39 ∧ c ≠ 40 ∧ c ≠ 41) by omega) with rfl | rfl | rfl | rfl | ⟨h1, h2, h3, h4⟩
          all_goals
            try have f1 : (c == 34) = false := by simpa using h1
            try have f2 : (c == 39) = false := by simpa using h2
            try have f3 : (c == 40) = false := by simpa using h3
            try have f4 : (c == 41) = false := by simpa using h4
            go_enter Tryz.func83, Tryz.ntmps83
            go_wp2_with (go_at_call 46; fail)
            refine (ha _).mono ?_
            rintro e w' ⟨rfl, m, rfl⟩
            go_wp2_with (go_at_call 28; fail)
            refine (hdn _).mono ?_
            rintro e w' ⟨rfl, m2, rfl⟩
            go_wp2_with (go_at_call 45; fail)
            refine (blank_any _ _).mono ?_
            rintro e w' ⟨rfl, rfl⟩
            go_wp2_with (go_at_call 99; fail)
            refine (ctrl_any _ _).mono ?_
            rintro e w' ⟨rfl, rfl⟩
            go_wp2
            go_ret
            exact ⟨ret_bool (by first | (rw [HV.out]; done) | (rw [HV.out]; simp [*, bne])), _, rfl⟩
      · go_enter Tryz.func83, Tryz.ntmps83
        go_wp2_with (go_at_call 46; fail)
        refine (ha _).mono ?_
        rintro e w' ⟨rfl, m, rfl⟩
        go_wp2_with (go_at_call 28; fail)
        refine (hdn _).mono ?_
        rintro e w' ⟨rfl, m2, rfl⟩
        go_wp2_with (go_at_call 45; fail)
        refine (blank_any _ _).mono ?_
        rintro e w' ⟨rfl, rfl⟩
        go_wp2_with (go_at_call 99; fail)
        refine (ctrl_any _ _).mono ?_
        rintro e w' ⟨rfl, rfl⟩
        go_wp2
        go_ret
        exact ⟨ret_bool (by rw [HU.out]; simp [hb, hk]), _, rfl⟩
    · go_enter Tryz.func83, Tryz.ntmps83
      go_wp2_with (go_at_call 46; fail)
      refine (ha _).mono ?_
      rintro e w' ⟨rfl, m, rfl⟩
      go_wp2_with (go_at_call 28; fail)
      refine (hdn _).mono ?_
      rintro e w' ⟨rfl, m2, rfl⟩
      go_wp2_with (go_at_call 45; fail)
      refine (blank_any _ _).mono ?_
      rintro e w' ⟨rfl, rfl⟩
      go_wp2
      go_ret
      exact ⟨ret_bool (by rw [HU.out]; simp [hb]), _, rfl⟩

theorem urlT_off (h : urlOn l = false) : urlT l 0 = [] ∧ urlR l 0 = l := by
  cases l with
  | nil => exact ⟨rfl, rfl⟩
  | cons c t => exact ⟨by rw [urlT, if_neg (by simp [h])], by rw [urlR, if_neg (by simp [h])]⟩
theorem urlT_esc {c : Int} {t : List Int} (h : urlOn (c :: t) = true) (he : escB (c :: t) = true) : urlT (c :: t) 0 = (escT t).1 :: urlT (t.drop (escT t).2) 0 ∧ urlR (c :: t) 0 = urlR (t.drop (escT t).2) 0 :=
  ⟨by rw [urlT, if_pos h, if_pos he, urlT_skip], by rw [urlR, if_pos h, if_pos he, urlR_skip]⟩
theorem urlT_plain {c : Int} {t : List Int} (h : urlOn (c :: t) = true) (he : escB (c :: t) = false) : urlT (c :: t) 0 = c :: urlT t 0 ∧ urlR (c :: t) 0 = urlR t 0 :=
  ⟨by rw [urlT, if_pos h, if_neg (by simp [he])], by rw [urlR, if_pos h, if_neg (by simp [he])]⟩

theorem outs_low {w0 : World} (h0 : Outs b w0 out ts) (h : Outs b w out ts) (hb : Below w0.heap.size w w1) : Outs b w1 out ts := by
  refine ⟨h.1, ?_⟩
  rcases h.2 with hn | ⟨g, cap, cur, hv, hbg, hg, rest⟩
  · exact .inl hn
  · rcases h0.2 with ⟨hn, _⟩ | ⟨g0, cap0, cur0, hv0, _, hg0, _⟩
    · rw [hv] at hn; cases hn
    · rw [hv] at hv0
      cases hv0
      exact .inr ⟨g, cap, cur, hv, hbg, (hb.block g ((Array.getElem?_eq_some_iff.1 hg0).1)).trans hg, rest⟩
theorem st_low {w0 : World} {l0 : List Int} (h0 : St w0 b v out xs l0 ts) (h : St w b v out xs l ts) (hb : Below w0.heap.size w w1) : St w1 b v out xs l ts ∧ Below b w w1 :=
  ⟨⟨at_low h0.1 h.1 hb, outs_low h0.2.1 h.2.1 hb, h.2.2.1, (hb.block (b + 1) ((Array.getElem?_eq_some_iff.1 h0.2.2.2).1)).trans h.2.2.2⟩, hb.mono (Nat.le_of_lt (st_lt h0))⟩

def UrlGo (w1 w : World) (b : Nat) (v out : Value) (xs l : List Int) (ts : List Tok) (wr : World) : Prop :=
  ∃ l' ns, St wr b v out xs l' ts ∧ Kept b w1 wr ∧ Below b w wr ∧ Wr w1.heap.size (bytesZ ns) wr ∧ ns ++ urlT l' 0 = urlT l 0 ∧ urlR l' 0 = urlR l 0 ∧ ns.length + l'.length ≤ xs.length

set_option maxHeartbeats 2000000 in
set_option maxRecDepth 100000 in
theorem url_any (hs : St w b v out xs l ts) (fx : Fine xs) (hts : ts.length ≤ 1000000000) :
    Calls Tryz.prog 61 #[.pointer (some ⟨b, 0, none⟩)] w fun e w' => e = .returned (.bool true) ∧ ∃ out', St w' b v out' xs (urlZ l).2 (ts ++ [(urlZ l).1]) ∧ Below b w w' := by
  have mixed : Tryz.prog.follows Departure.mixedOrders = true := by kernel_rfl
  have hfx := fx.1
  have HZ : Hid (urlZ l = urlEnd (urlT (blanksR l) 0) (urlR (blanksR l) 0)) := rfl
  have hb1 := blanks_any hs.1 fx
  go_enter Tryz.func61, Tryz.ntmps61
  go_wp2_with (go_at_call 47; fail)
  refine (hb1).mono ?_
  rintro e w1 ⟨rfl, h1, k1⟩
  obtain ⟨s1, q1⟩ := st_move hs k1 h1
  have hlt := at_lt h1
  clear hb1
  go_wp2
  go_loopw [] (fun wr => UrlGo w1 w b v out xs (blanksR l) ts wr) (fun wr => xs.length - posOf wr b)
  case atStart =>
    have hal : Below w1.heap.size w1 (w1.alloc (.cells #[.pointer none, .slice none 0 0] 108)) := (Below.refl _ w1).alloc (Nat.le_refl _) _
    obtain ⟨s2, q2⟩ := st_below s1 hal
    refine ⟨_, [], s2, Kept.of_below hal, q1.trans q2, wr_new w1, by simp, rfl, ?_⟩
    have := (at_suf h1).length_le
    simpa using this
  case round =>
    obtain ⟨l', ns, hst, hk, hbw, hw, hT, hR, hlen⟩ := hrel
    have hat := hst.1
    have HP : Hid (xs.length - posOf wr b = l'.length) := at_pos hat
    have HT : Hid (ns ++ urlT l' 0 = urlT (blanksR l) 0) := hT
    have HR : Hid (urlR l' 0 = urlR (blanksR l) 0) := hR
    have hbz := bytesZ_len ns
    have hsz := hk.size
    clear hT hR
    have hon := urlOn_r hat fx 0
    have hes := fun n => escB_0 hat fx n
    rw [drew0] at hon
    cases hgo : urlOn l'
    · rw [hgo] at hon
      obtain ⟨e1, e2⟩ := urlT_off hgo
      have HE : Hid (urlZ l = urlEnd ns l') := by
        have a1 := HT.out
        have a2 := HR.out
        rw [e1, List.append_nil] at a1
        rw [e2] at a2
        have := HZ.out
        rw [← a1, ← a2] at this
        exact this
      clear e1 e2 HZ
      go_wp2_with (go_at_call 83; fail)
      refine (hon).mono ?_
      rintro e w' ⟨rfl, m, rfl⟩
      have hb3 := blanks_any (at_drew hat m) fx
      go_wp2_with (go_at_call 47; fail)
      refine (hb3).mono ?_
      rintro e w3 ⟨rfl, h3, k3⟩
      have k3' : Kept b wr w3 := (Kept.drewN b wr m).trans k3
      obtain ⟨s3, q3⟩ := st_move hst k3' h3
      have hw3 := wr_kept hw k3' hlt
      have hdn := done_w h3 fx
      have ha := fun m => ahead_r h3 fx 0 0 rfl (by omega) m
      clear hb3
      cases hbl : blanksR l' with
      | nil =>
        rw [hbl] at hdn ha s3 h3
        have HN : Hid (urlZ l = (plainTok 7 ns, List.drop 1 [])) := by
          have := HE.out
          unfold urlEnd at this
          rw [hbl, if_pos rfl] at this
          exact this
        obtain ⟨a, cap, p, hc0, hc1, hf1, hp, hl9, hcap, hset⟩ := at_least s3.1 fx
        have HS : Hid (∀ (n : Nat) (q : Int), q = min ((p : Int) + 1) xs.length → At ((w3.drewN n).setCell ⟨b, 1, none⟩ (.int .i64 q)) b v out xs (List.drop 1 ([]))) := hset
        clear hset
        go_wp2_with (go_at_call 28; fail)
        refine (hdn).mono ?_
        rintro e w' ⟨rfl, m4, rfl⟩
        go_wp2
        go_region
        have hq7 : (if (xs.length : Int) < (p : Int) + 1 then (xs.length : Int) else (p : Int) + 1) = min ((p : Int) + 1) (xs.length : Int) := by split <;> omega
        have hset7 := HS.out (m4 + 1) (if (xs.length : Int) < (p : Int) + 1 then (xs.length : Int) else (p : Int) + 1) hq7
        have k7 := (Kept.drewN b w3 (m4 + 1)).setCell 1 (.int .i64 (if (xs.length : Int) < (p : Int) + 1 then (xs.length : Int) else (p : Int) + 1))
        obtain ⟨s7, b7⟩ := st_move s3 k7 hset7
        have hw7 := wr_kept hw3 k7 hlt
        clear hset7 hq7 k7
        generalize ((w3.drewN (m4 + 1)).setCell ⟨b, 1, none⟩ (.int .i64 (if (xs.length : Int) < (p : Int) + 1 then (xs.length : Int) else (p : Int) + 1))) = W7 at *
        generalize (if (xs.length : Int) < (p : Int) + 1 then (xs.length : Int) else (p : Int) + 1) = q7 at *
        go_wp2_with (go_at_call 52; fail)
        refine (wr_string w1.heap.size (bytesZ ns) W7 hw7).mono ?_
        rintro e w8 ⟨rfl, hb8⟩
        obtain ⟨s8, q8⟩ := st_low s1 s7 hb8
        have ht := tell_t s8 7 ns hts
        go_wp2_with (go_at_call 48; fail)
        refine (ht).mono ?_
        rintro e w9 ⟨rfl, out', s9, b9⟩
        go_wp2
        go_ret
        exact ⟨rfl, out', by rw [HN.out]; exact s9, hbw.trans (q3.trans (b7.trans (q8.trans b9)))⟩
      | cons c2 u2 =>
        rw [hbl] at hdn ha s3 h3
        have ed : decide (c2 :: u2 = []) = false := by simp
        rw [ed] at hdn
        have e0 : hd (c2 :: u2) 0 = c2 := rfl
        rw [e0] at ha
        by_cases h41 : c2 = 41
        · subst h41
          have HN : Hid (urlZ l = (plainTok 7 ns, List.drop 1 (41 :: u2))) := by
            have := HE.out
            unfold urlEnd at this
            rw [hbl, if_neg (by simp), if_pos (show hd (41 :: u2) 0 = 41 from rfl)] at this
            exact this
          obtain ⟨a, cap, p, hc0, hc1, hf1, hp, hl9, hcap, hset⟩ := at_least s3.1 fx
          have HS : Hid (∀ (n : Nat) (q : Int), q = min ((p : Int) + 1) xs.length → At ((w3.drewN n).setCell ⟨b, 1, none⟩ (.int .i64 q)) b v out xs (List.drop 1 (41 :: u2))) := hset
          clear hset
          go_wp2_with (go_at_call 28; fail)
          refine (hdn).mono ?_
          rintro e w' ⟨rfl, m4, rfl⟩
          go_wp2_with (go_at_call 46; fail)
          refine (ha _).mono ?_
          rintro e w' ⟨rfl, m5, rfl⟩
          go_wp2
          go_region
          have hq7 : (if (xs.length : Int) < (p : Int) + 1 then (xs.length : Int) else (p : Int) + 1) = min ((p : Int) + 1) (xs.length : Int) := by split <;> omega
          have hset7 := HS.out (m5 + 1) (if (xs.length : Int) < (p : Int) + 1 then (xs.length : Int) else (p : Int) + 1) hq7
          have k7 := (Kept.drewN b w3 (m5 + 1)).setCell 1 (.int .i64 (if (xs.length : Int) < (p : Int) + 1 then (xs.length : Int) else (p : Int) + 1))
          obtain ⟨s7, b7⟩ := st_move s3 k7 hset7
          have hw7 := wr_kept hw3 k7 hlt
          clear hset7 hq7 k7
          generalize ((w3.drewN (m5 + 1)).setCell ⟨b, 1, none⟩ (.int .i64 (if (xs.length : Int) < (p : Int) + 1 then (xs.length : Int) else (p : Int) + 1))) = W7 at *
          generalize (if (xs.length : Int) < (p : Int) + 1 then (xs.length : Int) else (p : Int) + 1) = q7 at *
          go_wp2_with (go_at_call 52; fail)
          refine (wr_string w1.heap.size (bytesZ ns) W7 hw7).mono ?_
          rintro e w8 ⟨rfl, hb8⟩
          obtain ⟨s8, q8⟩ := st_low s1 s7 hb8
          have ht := tell_t s8 7 ns hts
          go_wp2_with (go_at_call 48; fail)
          refine (ht).mono ?_
          rintro e w9 ⟨rfl, out', s9, b9⟩
          go_wp2
          go_ret
          exact ⟨rfl, out', by rw [HN.out]; exact s9, hbw.trans (q3.trans (b7.trans (q8.trans b9)))⟩
        · have e41 : (c2 == 41) = false := by simpa using h41
          have HN : Hid (urlZ l = (plainTok 8 [], badR (c2 :: u2) 0)) := by
            have := HE.out
            unfold urlEnd at this
            rw [hbl, if_neg (by simp), if_neg (by rw [e0]; exact h41)] at this
            exact this
          go_wp2_with (go_at_call 28; fail)
          refine (hdn).mono ?_
          rintro e w' ⟨rfl, m4, rfl⟩
          go_wp2_with (go_at_call 46; fail)
          refine (ha _).mono ?_
          rintro e w' ⟨rfl, m5, rfl⟩
          obtain ⟨s6, q6⟩ := st_drew s3 m5
          have hbad := bad_any s6 fx hts
          go_wp2_with (go_at_call 84; fail)
          refine (hbad).mono ?_
          rintro e w9 ⟨rfl, out', s9, b9⟩
          go_wp2
          go_ret
          exact ⟨rfl, out', by rw [HN.out]; exact s9, hbw.trans (q3.trans (q6.trans b9))⟩
    · rw [hgo] at hon
      obtain ⟨c, t, rfl⟩ : ∃ c t, l' = c :: t := by
        cases l' with
        | nil => exact absurd hgo (by decide)
        | cons c t => exact ⟨c, t, rfl⟩
      cases hez : escB (c :: t)
      · rw [hez] at hes
        have hnx := fun n => next_r hat fx c t rfl n
        have hc32 := char_32 (at_chars fx hat c (by simp))
        go_wp2_with (go_at_call 83; fail)
        refine (hon).mono ?_
        rintro e w' ⟨rfl, m, rfl⟩
        go_wp2_with (go_at_call 54; fail)
        refine (hes _).mono ?_
        rintro e w' ⟨rfl, m2, rfl⟩
        go_wp2_with (go_at_call 49; fail)
        refine (hnx _).mono ?_
        rintro e w2 ⟨rfl, h2, k2⟩
        have hw2 := wr_kept hw k2 hlt
        go_wp2_with (go_at_call 51; fail)
        refine (wr_rune w1.heap.size (bytesZ ns) (c) hc32.1 hc32.2 w2 hw2 (by omega)).mono ?_
        rintro e w3 ⟨⟨rn, rfl⟩, hw3, hb3⟩
        obtain ⟨s2, q2⟩ := st_move hst k2 h2
        obtain ⟨s3, q3⟩ := st_low s1 s2 hb3
        go_wp2
        go_roundw
        case rel =>
          have hT := HT.out
          have hR := HR.out
          obtain ⟨e1, e2⟩ := urlT_plain hgo hez
          rw [e1] at hT
          rw [e2] at hR
          refine ⟨t, ns ++ [c], s3, (hk.trans k2).then hb3, hbw.trans (q2.trans q3), ?_, ?_, hR, ?_⟩
          · rw [bytesZ_app, bytesZ_one]; exact hw3
          · rw [List.append_assoc]; exact hT
          · simp at hlen ⊢; omega
        case measure =>
          rw [HP.out, at_pos s3.1]
          simp only [List.length_cons]; omega
      · rw [hez] at hes
        have hnx := fun n => escape_r c t hat rfl fx n
        have hc32 := char_32 (escT_char (fun d hd => at_chars fx hat d (List.mem_cons_of_mem _ hd)))
        have hdl : (t.drop (escT t).2).length ≤ t.length := by simp
        go_wp2_with (go_at_call 83; fail)
        refine (hon).mono ?_
        rintro e w' ⟨rfl, m, rfl⟩
        go_wp2_with (go_at_call 54; fail)
        refine (hes _).mono ?_
        rintro e w' ⟨rfl, m2, rfl⟩
        go_wp2_with (go_at_call 73; fail)
        refine (hnx _).mono ?_
        rintro e w2 ⟨rfl, h2, k2⟩
        have hw2 := wr_kept hw k2 hlt
        go_wp2_with (go_at_call 51; fail)
        refine (wr_rune w1.heap.size (bytesZ ns) ((escT t).1) hc32.1 hc32.2 w2 hw2 (by omega)).mono ?_
        rintro e w3 ⟨⟨rn, rfl⟩, hw3, hb3⟩
        obtain ⟨s2, q2⟩ := st_move hst k2 h2
        obtain ⟨s3, q3⟩ := st_low s1 s2 hb3
        go_wp2
        go_roundw
        case rel =>
          have hT := HT.out
          have hR := HR.out
          obtain ⟨e1, e2⟩ := urlT_esc hgo hez
          rw [e1] at hT
          rw [e2] at hR
          refine ⟨t.drop (escT t).2, ns ++ [(escT t).1], s3, (hk.trans k2).then hb3, hbw.trans (q2.trans q3), ?_, ?_, hR, ?_⟩
          · rw [bytesZ_app, bytesZ_one]; exact hw3
          · rw [List.append_assoc]; exact hT
          · simp at hlen ⊢; omega
        case measure =>
          rw [HP.out, at_pos s3.1]
          simp only [List.length_cons, List.length_drop]; omega
end
end Go.Proofs.YtdibldcnklgcjaaGreatDoor
