/- The cutter's ways over spaces, comments and markup. -/
import Derived.Test.YtdibldcnklgcjaaGreatDoorWays
namespace Go.Proofs.YtdibldcnklgcjaaGreatDoor
open Go.RowKit
set_option maxRecDepth 100000

section
variable {w w1 w2 : World} {b : Nat} {v out : Value} {xs l l' : List Int} {ts : List Tok}
theorem st_lt (hs : St w b v out xs l ts) : b < w.heap.size := at_lt hs.1
theorem st_move (hs : St w b v out xs l ts) (hk : Kept b w w1) (ha : At w1 b v out xs l') : St w1 b v out xs l' ts ∧ Below b w w1 := ⟨st_kept hs hk ha, hk.below (Nat.le_of_lt (st_lt hs))⟩
theorem st_drew (hs : St w b v out xs l ts) (n : Nat) : St (w.drewN n) b v out xs l ts ∧ Below b w (w.drewN n) := st_move hs (Kept.drewN b w n) (at_drew hs.1 n)
theorem st_below (hs : St w b v out xs l ts) (hb : Below w.heap.size w w1) : St w1 b v out xs l ts ∧ Below b w w1 := st_move hs (Kept.of_below hb) (at_below hs.1 hb)
theorem tell_k (hs : St w b v out xs l ts) (k : Int) (hts : ts.length ≤ 1000000000) :
    Calls Tryz.prog 48 #[.pointer (some ⟨b, 0, none⟩), .agg #[.int .i64 k, .string ⟨#[]⟩, .string ⟨#[]⟩, .bool false, .bool false]] w fun e w' => e = .returned (.bool true) ∧ ∃ out', St w' b v out' xs l (ts ++ [plainTok k []]) ∧ Below b w w' := tell_any hs (plainTok k []) hts
theorem tell_t (hs : St w b v out xs l ts) (k : Int) (t : List Int) (hts : ts.length ≤ 1000000000) :
    Calls Tryz.prog 48 #[.pointer (some ⟨b, 0, none⟩), .agg #[.int .i64 k, .string (strOfNums (bytesZ t)), .string ⟨#[]⟩, .bool false, .bool false]] w fun e w' => e = .returned (.bool true) ∧ ∃ out', St w' b v out' xs l (ts ++ [plainTok k t]) ∧ Below b w w' := tell_any hs (plainTok k t) hts

set_option maxHeartbeats 1000000 in
theorem space_no (hs : St w b v out xs l ts) (fx : Fine xs) (hc : blankZ (hd l 0) = false) :
    Calls Tryz.prog 20 #[.pointer (some ⟨b, 0, none⟩)] w fun e w' => e = .returned (.bool false) ∧ St w' b v out xs l ts ∧ Below b w w' := by
  have ha := ahead_w hs.1 fx 0 0 rfl (by omega)
  generalize hd l 0 = c0 at *
  go_enter Tryz.func20, Tryz.ntmps20
  go_wp2_with (go_at_call 46; fail)
  refine (ha).mono ?_
  rintro e w' ⟨rfl, m, rfl⟩
  go_wp2_with (go_at_call 45; fail)
  refine (blank_any _ _).mono ?_
  rintro e w' ⟨rfl, rfl⟩
  go_wp2
  go_ret
  exact ⟨rfl, st_drew hs m⟩

set_option maxHeartbeats 1000000 in
theorem space_yes (hs : St w b v out xs l ts) (fx : Fine xs) (hts : ts.length ≤ 1000000000) (hc : blankZ (hd l 0) = true) :
    Calls Tryz.prog 20 #[.pointer (some ⟨b, 0, none⟩)] w fun e w' => e = .returned (.bool true) ∧ ∃ out', St w' b v out' xs (blanksR l) (ts ++ [plainTok 13 []]) ∧ Below b w w' := by
  have ha := ahead_w hs.1 fx 0 0 rfl (by omega)
  generalize hd l 0 = c0 at *
  go_enter Tryz.func20, Tryz.ntmps20
  go_wp2_with (go_at_call 46; fail)
  refine (ha).mono ?_
  rintro e w' ⟨rfl, m, rfl⟩
  go_wp2_with (go_at_call 45; fail)
  refine (blank_any _ _).mono ?_
  rintro e w' ⟨rfl, rfl⟩
  have hb := blanks_any (at_drew hs.1 m) fx
  go_wp2_with (go_at_call 47; fail)
  refine (hb).mono ?_
  rintro e w2 ⟨rfl, h2, k2⟩
  obtain ⟨s2, b2⟩ := st_move hs ((Kept.drewN b w m).trans k2) h2
  have ht := tell_k s2 13 hts
  go_wp2_with (go_at_call 48; fail)
  refine (ht).mono ?_
  rintro e w3 ⟨rfl, out', s3, b3⟩
  go_wp2
  go_ret
  exact ⟨rfl, out', s3, b2.trans b3⟩

theorem stands_len : ∀ (s l : List Int), (∀ c ∈ s, c ≠ -1) → standsB s l = true → s.length ≤ l.length
  | [], _, _, _ => Nat.zero_le _
  | c :: r, [], hs, h => by
    simp [standsB, hd] at h
    exact absurd h.1.symm (hs c (by simp))
  | c :: r, d :: t, hs, h => by
    rw [standsB, Bool.and_eq_true] at h
    have := stands_len r t (fun x hx => hs x (by simp [hx])) h.2
    simpa using this
theorem asc3 : ∀ k (h : k < (⟨#[45, 45, 62]⟩ : ByteArray).size), ((⟨#[45, 45, 62]⟩ : ByteArray)[k]'h).toNat < 128 := by decide
theorem asc4 : ∀ k (h : k < (⟨#[60, 33, 45, 45]⟩ : ByteArray).size), ((⟨#[60, 33, 45, 45]⟩ : ByteArray)[k]'h).toNat < 128 := by decide
theorem ascA : ∀ k (h : k < (⟨#[47, 42]⟩ : ByteArray).size), ((⟨#[47, 42]⟩ : ByteArray)[k]'h).toNat < 128 := by decide
theorem ascB : ∀ k (h : k < (⟨#[42, 47]⟩ : ByteArray).size), ((⟨#[42, 47]⟩ : ByteArray)[k]'h).toNat < 128 := by decide

set_option maxHeartbeats 1000000 in
theorem markup_no (hs : St w b v out xs l ts) (fx : Fine xs) (h3 : standsB [45, 45, 62] l = false) (h4 : standsB [60, 33, 45, 45] l = false) :
    Calls Tryz.prog 24 #[.pointer (some ⟨b, 0, none⟩)] w fun e w' => e = .returned (.bool false) ∧ St w' b v out xs l ts ∧ Below b w w' := by
  have ha := stands_any ⟨#[45, 45, 62]⟩ asc3 (by decide) hs.1 fx
  have e3 : codes ⟨#[45, 45, 62]⟩ = [45, 45, 62] := by decide
  rw [e3, h3] at ha
  go_enter Tryz.func24, Tryz.ntmps24
  go_wp2_with (go_at_call 44; fail)
  refine (ha).mono ?_
  rintro e w1 ⟨rfl, b1⟩
  obtain ⟨s1, q1⟩ := st_below hs b1
  have hb := stands_any ⟨#[60, 33, 45, 45]⟩ asc4 (by decide) s1.1 fx
  have e4 : codes ⟨#[60, 33, 45, 45]⟩ = [60, 33, 45, 45] := by decide
  rw [e4, h4] at hb
  go_wp2_with (go_at_call 44; fail)
  refine (hb).mono ?_
  rintro e w2 ⟨rfl, b2⟩
  obtain ⟨s2, q2⟩ := st_below s1 b2
  go_wp2
  go_ret
  exact ⟨rfl, s2, q1.trans q2⟩

set_option maxHeartbeats 1000000 in
theorem cdc_yes (hs : St w b v out xs l ts) (fx : Fine xs) (hts : ts.length ≤ 1000000000) (h3 : standsB [45, 45, 62] l = true) :
    Calls Tryz.prog 24 #[.pointer (some ⟨b, 0, none⟩)] w fun e w' => e = .returned (.bool true) ∧ ∃ out', St w' b v out' xs (l.drop 3) (ts ++ [plainTok 15 []]) ∧ Below b w w' := by
  have ha := stands_any ⟨#[45, 45, 62]⟩ asc3 (by decide) hs.1 fx
  have e3 : codes ⟨#[45, 45, 62]⟩ = [45, 45, 62] := by decide
  rw [e3, h3] at ha
  have hl := stands_len [45, 45, 62] l (by decide) h3
  go_enter Tryz.func24, Tryz.ntmps24
  go_wp2_with (go_at_call 44; fail)
  refine (ha).mono ?_
  rintro e w1 ⟨rfl, b1⟩
  obtain ⟨s1, q1⟩ := st_below hs b1
  obtain ⟨p, hc1, hf1, hp9, hset⟩ := at_raw s1.1 fx
  have hset3 := hset 3 (p + 3) rfl hl
  obtain ⟨s5, b5⟩ := st_move s1 ((Kept.refl b w1).setCell 1 _) hset3
  have ht := tell_k s5 15 hts
  clear hset hset3
  go_wp2_with (go_at_call 48; fail)
  refine (ht).mono ?_
  rintro e w6 ⟨rfl, out', s6, b6⟩
  go_wp2
  go_ret
  exact ⟨rfl, out', s6, q1.trans (b5.trans b6)⟩

set_option maxHeartbeats 1000000 in
theorem cdo_yes (hs : St w b v out xs l ts) (fx : Fine xs) (hts : ts.length ≤ 1000000000) (h3 : standsB [45, 45, 62] l = false) (h4 : standsB [60, 33, 45, 45] l = true) :
    Calls Tryz.prog 24 #[.pointer (some ⟨b, 0, none⟩)] w fun e w' => e = .returned (.bool true) ∧ ∃ out', St w' b v out' xs (l.drop 4) (ts ++ [plainTok 14 []]) ∧ Below b w w' := by
  have ha := stands_any ⟨#[45, 45, 62]⟩ asc3 (by decide) hs.1 fx
  have e3 : codes ⟨#[45, 45, 62]⟩ = [45, 45, 62] := by decide
  rw [e3, h3] at ha
  have hl := stands_len [60, 33, 45, 45] l (by decide) h4
  go_enter Tryz.func24, Tryz.ntmps24
  go_wp2_with (go_at_call 44; fail)
  refine (ha).mono ?_
  rintro e w1 ⟨rfl, b1⟩
  obtain ⟨s1, q1⟩ := st_below hs b1
  have hb := stands_any ⟨#[60, 33, 45, 45]⟩ asc4 (by decide) s1.1 fx
  have e4 : codes ⟨#[60, 33, 45, 45]⟩ = [60, 33, 45, 45] := by decide
  rw [e4, h4] at hb
  go_wp2_with (go_at_call 44; fail)
  refine (hb).mono ?_
  rintro e w2 ⟨rfl, b2⟩
  obtain ⟨s2, q2⟩ := st_below s1 b2
  obtain ⟨p, hc1, hf1, hp9, hset⟩ := at_raw s2.1 fx
  have hset3 := hset 4 (p + 4) rfl hl
  obtain ⟨s5, b5⟩ := st_move s2 ((Kept.refl b w2).setCell 1 _) hset3
  have ht := tell_k s5 14 hts
  clear hset hset3
  go_wp2_with (go_at_call 48; fail)
  refine (ht).mono ?_
  rintro e w6 ⟨rfl, out', s6, b6⟩
  go_wp2
  go_ret
  exact ⟨rfl, out', s6, (q1.trans q2).trans (b5.trans b6)⟩

set_option maxHeartbeats 1000000 in
theorem comment_no (hs : St w b v out xs l ts) (fx : Fine xs) (h3 : standsB [47, 42] l = false) :
    Calls Tryz.prog 19 #[.pointer (some ⟨b, 0, none⟩)] w fun e w' => e = .returned (.bool false) ∧ St w' b v out xs l ts ∧ Below b w w' := by
  have ha := stands_any ⟨#[47, 42]⟩ ascA (by decide) hs.1 fx
  have e3 : codes ⟨#[47, 42]⟩ = [47, 42] := by decide
  rw [e3, h3] at ha
  go_enter Tryz.func19, Tryz.ntmps19
  go_wp2_with (go_at_call 44; fail)
  refine (ha).mono ?_
  rintro e w1 ⟨rfl, b1⟩
  go_wp2
  go_ret
  exact ⟨rfl, st_below hs b1⟩

set_option maxHeartbeats 1000000 in
theorem comment_yes (hs : St w b v out xs l ts) (fx : Fine xs) (_hts : ts.length ≤ 1000000000) (h3 : standsB [47, 42] l = true) :
    Calls Tryz.prog 19 #[.pointer (some ⟨b, 0, none⟩)] w fun e w' => e = .returned (.bool true) ∧ St w' b v out xs (comR (l.drop 2)) ts ∧ Below b w w' := by
  have ha := stands_any ⟨#[47, 42]⟩ ascA (by decide) hs.1 fx
  have e3 : codes ⟨#[47, 42]⟩ = [47, 42] := by decide
  rw [e3, h3] at ha
  have hl := stands_len [47, 42] l (by decide) h3
  go_enter Tryz.func19, Tryz.ntmps19
  go_wp2_with (go_at_call 44; fail)
  refine (ha).mono ?_
  rintro e w1 ⟨rfl, b1⟩
  obtain ⟨s1, q1⟩ := st_below hs b1
  obtain ⟨p, hc1, hf1, hp9, hset⟩ := at_raw s1.1 fx
  have hset3 := hset 2 (p + 2) rfl hl
  obtain ⟨s5, b5⟩ := st_move s1 ((Kept.refl b w1).setCell 1 _) hset3
  have B5 := q1.trans b5
  clear hset hset3 q1 b5
  go_wp2
  go_loopw [] (fun wr => ∃ l', St wr b v out xs l' ts ∧ Below b w wr ∧ comR l' = comR (l.drop 2)) (fun wr => xs.length - posOf wr b)
  case atStart => exact ⟨_, s5, B5, rfl⟩
  case round =>
    obtain ⟨l', hst, hbw, heq⟩ := hrel
    have HQ : Hid (comR l' = comR (l.drop 2)) := heq
    have HP : Hid (xs.length - posOf wr b = l'.length) := at_pos hst.1
    clear heq s5 B5 s1 hc1 hf1 hs ha
    have hdn := done_w hst.1 fx
    cases l' with
    | nil =>
      have HN : Hid (comR (l.drop 2) = []) := HQ.out.symm
      go_wp2_with (go_at_call 28; fail)
      refine (hdn).mono ?_
      rintro e w' ⟨rfl, m, rfl⟩
      go_wp2
      go_ret
      obtain ⟨s6, b6⟩ := st_drew hst m
      exact ⟨rfl, by rw [HN.out]; exact s6, hbw.trans b6⟩
    | cons c u =>
      have ed : decide (c :: u = []) = false := by simp
      rw [ed] at hdn
      go_wp2_with (go_at_call 28; fail)
      refine (hdn).mono ?_
      rintro e w' ⟨rfl, m, rfl⟩
      obtain ⟨s6, b6⟩ := st_drew hst m
      have hb := stands_any ⟨#[42, 47]⟩ ascB (by decide) s6.1 fx
      have e4 : codes ⟨#[42, 47]⟩ = [42, 47] := by decide
      rw [e4] at hb
      cases h4 : standsB [42, 47] (c :: u)
      · rw [h4] at hb
        go_wp2_with (go_at_call 44; fail)
        refine (hb).mono ?_
        rintro e w7 ⟨rfl, b7⟩
        obtain ⟨s7, q7⟩ := st_below s6 b7
        obtain ⟨p7, hc7, hf7, hp7, hset7⟩ := at_raw s7.1 fx
        have hset8 := hset7 1 (p7 + 1) rfl (by simp)
        obtain ⟨s8, b8⟩ := st_move s7 ((Kept.refl b w7).setCell 1 _) hset8
        have B8 := hbw.trans (b6.trans (q7.trans b8))
        clear hset7 hset8
        go_wp2
        go_roundw
        case rel =>
          refine ⟨u, s8, B8, ?_⟩
          have := HQ.out
          rw [comR, if_neg (by intro hh; simp [standsB, hd, hh.1] at h4; exact h4 hh.2)] at this
          exact this
        case measure =>
          rw [HP.out, at_pos s8.1]
          simp
      · rw [h4] at hb
        have hl2 := stands_len [42, 47] (c :: u) (by decide) h4
        go_wp2_with (go_at_call 44; fail)
        refine (hb).mono ?_
        rintro e w7 ⟨rfl, b7⟩
        obtain ⟨s7, q7⟩ := st_below s6 b7
        obtain ⟨p7, hc7, hf7, hp7, hset7⟩ := at_raw s7.1 fx
        have hset8 := hset7 2 (p7 + 2) rfl hl2
        obtain ⟨s8, b8⟩ := st_move s7 ((Kept.refl b w7).setCell 1 _) hset8
        have B8 := hbw.trans (b6.trans (q7.trans b8))
        have HN : Hid (comR (l.drop 2) = u.drop 1) := by
          have := HQ.out
          rw [comR, if_pos (by simp [standsB, hd] at h4; exact h4)] at this
          exact this.symm
        clear hset7 hset8
        go_wp2
        go_ret
        exact ⟨rfl, by rw [HN.out]; exact s8, B8⟩
end
end Go.Proofs.YtdibldcnklgcjaaGreatDoor
