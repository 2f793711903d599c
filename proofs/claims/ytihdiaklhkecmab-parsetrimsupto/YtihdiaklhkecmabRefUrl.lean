/- A URL in the second reading. -/
import Derived.Test.YtihdiaklhkecmabRefQuo
namespace Go.Proofs.Ytihdiaklhkecmab
open Go.RowKit

theorem blanksR_twice (l : List Int) : blanksR (blanksR l) = blanksR l := by
  induction l with
  | nil => rfl
  | cons c t ih =>
    rw [blanksR]
    split
    · exact ih
    · rename_i h
      rw [blanksR, if_neg h]
theorem blanksR_hd : ∀ (l : List Int), blankZ (hd (blanksR l) 0) = false
  | [] => by decide
  | c :: t => by
    rw [blanksR]
    split
    · exact blanksR_hd t
    · rename_i h; simpa [hd] using h
theorem url_off {l : List Int} (h : urlOn l = false) : urlT l 0 = [] ∧ urlR l 0 = l := by
  cases l with
  | nil => exact ⟨rfl, rfl⟩
  | cons c t => exact ⟨by rw [urlT, if_neg (by simp [h])], by rw [urlR, if_neg (by simp [h])]⟩
theorem url_plain {xs : List Int} {p : Nat} (hp : p < xs.length) (h : urlOn (xs.drop p) = true) (he : escB (xs.drop p) = false) : urlT (xs.drop p) 0 = hd xs p :: urlT (xs.drop (p + 1)) 0 ∧ urlR (xs.drop p) 0 = urlR (xs.drop (p + 1)) 0 := by
  rw [drop_hd hp] at h he ⊢
  exact ⟨by rw [urlT, if_pos h, if_neg (by simp [he])], by rw [urlR, if_pos h, if_neg (by simp [he])]⟩
theorem url_esc {xs : List Int} {p : Nat} (hp : p < xs.length) (h : urlOn (xs.drop p) = true) (he : escB (xs.drop p) = true) :
    urlT (xs.drop p) 0 = (escT (xs.drop (p + 1))).1 :: urlT (xs.drop (p + 1 + (escT (xs.drop (p + 1))).2)) 0 ∧ urlR (xs.drop p) 0 = urlR (xs.drop (p + 1 + (escT (xs.drop (p + 1))).2)) 0 := by
  rw [drop_hd hp] at h he ⊢
  exact ⟨by rw [urlT, if_pos h, if_pos he, urlT_skip, List.drop_drop], by rw [urlR, if_pos h, if_pos he, urlR_skip, List.drop_drop]⟩
theorem urlOn_at {xs : List Int} {p : Nat} (hp : p < xs.length) : urlOn (xs.drop p) = if blankZ (hd xs p) then false else if ctrlZ (hd xs p) then false else if hd xs p = 92 then escB (xs.drop p) else (hd xs p != 34 && hd xs p != 39 && hd xs p != 40 && hd xs p != 41) := by
  unfold urlOn
  rw [if_neg (by simp; omega), hd_drop, Nat.add_zero]
theorem escB_no {xs : List Int} {p : Nat} (h : hd xs p ≠ 92) : escB (xs.drop p) = false := by
  unfold escB
  rw [hd_drop, Nat.add_zero]
  simp [h]
theorem drop_ne {xs : List Int} {p : Nat} (h : p < xs.length) : xs.drop p ≠ [] := by simp; omega
theorem urlEnd_end (acc : List Int) : urlEnd acc [] = (plainTok 7 acc, []) := rfl
theorem urlEnd_close {acc xs : List Int} {p : Nat} (hp : p < xs.length) (h : hd xs p = 41) : urlEnd acc (xs.drop p) = (plainTok 7 acc, xs.drop (p + 1)) := by
  have hb : blanksR (xs.drop p) = xs.drop p := blanksR_stop (by rw [h]; decide)
  unfold urlEnd
  rw [hb, if_neg (drop_ne hp), hd_drop, Nat.add_zero, if_pos h, List.drop_drop]
theorem urlEnd_bad {acc xs : List Int} {p : Nat} (hp : p < xs.length) (hb : blankZ (hd xs p) = false) (h : hd xs p ≠ 41) : urlEnd acc (xs.drop p) = (plainTok 8 [], badR (xs.drop p) 0) := by
  have hb : blanksR (xs.drop p) = xs.drop p := blanksR_stop hb
  unfold urlEnd
  rw [hb, if_neg (drop_ne hp), hd_drop, Nat.add_zero, if_neg h]
theorem urlEnd_blank {acc l m : List Int} (h : m = blanksR l) : urlEnd acc m = urlEnd acc l := by
  unfold urlEnd
  rw [h, blanksR_twice]

set_option maxHeartbeats 4000000 in
set_option maxRecDepth 100000 in
theorem rurl_any {w : World} {v : Value} {xs : List Int} (hv : RowAt .i32 w v xs) (fx : Fine xs) (i : Nat) (j : Int) (hj : j = i) (hi : i ≤ xs.length) :
    Calls Try.prog 59 #[v, .int .i64 j] w fun e w' => ∃ p : Nat, e = .returned (.tuple #[tokV (urlZ (xs.drop i)).1, .int .i64 p]) ∧ xs.drop p = (urlZ (xs.drop i)).2 ∧ i ≤ p ∧ p ≤ xs.length ∧ Below w.heap.size w w' := by
  subst hj
  have hl := fx.1
  obtain ⟨i0, hi0, hz0, hz1, hz2⟩ := info_parts Try.info21
  have hB0 : Below w.heap.size w (w.alloc (.cells #[.int .i64 0, .string ⟨#[]⟩, .string ⟨#[]⟩, .bool false, .bool false] 27)) := (Below.refl _ _).alloc (Nat.le_refl _) _
  have HH : Hid (RowAt .i32 w v xs ∧ Fine xs) := And.intro hv fx
  have hbl := rblanks_any (hv.below hB0) fx i i rfl hi
  obtain ⟨a, cap, rfl, hcap, hcs⟩ := hv
  clear fx hcs
  go_enter Try.func59, Try.ntmps59
  go_wp2_with (go_at_call 41; fail)
  refine (hbl).mono ?_
  rintro e w' ⟨i', rfl, hdr, hi1, hi2, rfl⟩
  have HDR := hid_mk hdr
  clear hdr
  go_wp2
  go_loopw [1, 6] (fun a1 out wr => ∃ (p : Nat) (acc : List Int), a1 = .int .i64 (p : Int) ∧ wr.ownsRow (w.heap.size + 1) 21 1 out acc.length (acc.map (Value.int .i32)) ∧ i ≤ p ∧ p ≤ xs.length ∧ Below w.heap.size w wr ∧ w.heap.size < wr.heap.size ∧ wr.heap[w.heap.size]? = some (.cells #[.int .i64 0, .string ⟨#[]⟩, .string ⟨#[]⟩, .bool false, .bool false] 27 (0, 0)) ∧ urlEnd (acc ++ urlT (xs.drop p) 0) (urlR (xs.drop p) 0) = urlZ (xs.drop i) ∧ acc.length ≤ p ∧ ∀ c ∈ acc, IsChar c) (fun a1 _ _ => xs.length + 1 - (intOf a1).toNat)
  case atStart => exact ⟨i', [], rfl, World.ownsRow_nil _ _ _ _, hi1, hi2, hB0, by simp, heap_alloc_new w _, by rw [HDR.out]; rfl, by simp, by simp⟩
  case round =>
    obtain ⟨p, acc, rfl, hown, hip, hp, hB, hsz, hblk, hF, hal, hch⟩ := hrel
    have HF := hid_mk hF
    have HC := hid_mk hch
    clear hF hch
    have hrow := HH.out.1.below hB
    have ha := rat_any hrow HH.out.2 p p rfl
    by_cases hlt : p < xs.length
    · have HCH := hid_mk (HH.out.2.2 (hd xs p) (by have := drop_hd hlt; exact List.mem_of_mem_drop (i := p) (by rw [this]; simp)))
      have hc0 : 0 ≤ hd xs p := HCH.out.1
      have e1 : (hd xs p == -1) = false := by simp; omega
      have hON := urlOn_at hlt
      by_cases h41 : hd xs p = 41
      · have hcv := conv_runes (ownsRow_row hown) HC.out
        have hoff := url_off (l := xs.drop p) (by rw [hON, h41]; rfl)
        have HV : Hid (urlZ (xs.drop i) = (plainTok 7 acc, xs.drop (p + 1))) := by
          have := HF.out
          rw [hoff.1, hoff.2, List.append_nil, urlEnd_close hlt h41] at this
          exact this.symm
        rw [h41] at ha
        obtain ⟨k0, k1, k2, k3, k4, f0, f1, f2, f3, f4⟩ := zero_cells hblk
        clear e1 hc0 hON hoff h41
        go_wp2_with (go_at_call 39; fail)
        refine (ha).mono ?_
        rintro e w' ⟨rfl, rfl⟩
        go_wp2
        refine bodyPost_ret (v := .tuple #[.agg #[.int .i64 7, .string (strT acc), .string ⟨#[]⟩, .bool false, .bool false], .int .i64 ((p + 1 : Nat) : Int)]) (by simp [results, Try.results59, go_sem, k0, k1, k2, k3, k4]) rfl ⟨p + 1, by rw [HV.out]; rfl, by rw [HV.out], by omega, by omega, ?_⟩
        exact ((((hB.setCell (Nat.le_refl _) _).setCell (Nat.le_refl _) _).setCell (Nat.le_refl _) _).setCell (Nat.le_refl _) _).setCell (Nat.le_refl _) _
      · have e41 : (hd xs p == 41) = false := by simpa using h41
        have hbk := refBlank_any (hd xs p) wr
        cases hbz : blankZ (hd xs p)
        · rw [hbz] at hbk hON
          have hct := rcontrol_any (hd xs p) wr
          have hes := resc_any hrow HH.out.2 p p rfl (by omega)
          have hBM : Hid ((if blankZ (hd xs p) then 1 else 0) = 0) := by show (if blankZ (hd xs p) then 1 else 0) = 0; rw [hbz]; rfl
          simp only [Bool.false_eq_true, if_false] at hON
          by_cases hbad : hd xs p = 34 ∨ hd xs p = 39 ∨ hd xs p = 40 ∨ ctrlZ (hd xs p) = true ∨ (hd xs p = 92 ∧ escB (xs.drop p) = false)
          · have hoff := url_off (l := xs.drop p) (by
              rw [hON]
              rcases hbad with h | h | h | h | ⟨h, h'⟩
              · rw [h]; rfl
              · rw [h]; rfl
              · rw [h]; rfl
              · rw [if_pos h]
              · rw [if_neg (by rw [h]; decide), if_pos h]; exact h')
            have HV : Hid (urlZ (xs.drop i) = (plainTok 8 [], badR (xs.drop p) 0)) := by
              have := HF.out
              rw [hoff.1, hoff.2, List.append_nil, urlEnd_bad hlt hbz h41] at this
              exact this.symm
            have hbd := rbad_any hrow HH.out.2 p p rfl hp
            clear hON hoff HF
            rcases hbad with h | h | h | h | ⟨h, h'⟩
            · rw [h] at ha hbk e1 e41
              clear hes hct h41 hbz hBM
              go_wp2_with (go_at_call 39; fail)
              refine (ha).mono ?_
              rintro e w' ⟨rfl, rfl⟩
              go_wp2_with (go_at_call 40; fail)
              refine (hbk).mono ?_
              rintro e w' ⟨rfl, rfl⟩
              go_wp2_with (go_at_call 63; fail)
              refine (hbd).mono ?_
              rintro e w6 ⟨p6, rfl, hd6, hp6, hp7, b6⟩
              have hB6 := hB.trans (b6.mono hB.size)
              have hblk6 : w6.heap[w.heap.size]? = some (.cells #[.int .i64 0, .string ⟨#[]⟩, .string ⟨#[]⟩, .bool false, .bool false] 27 (0, 0)) := (b6.block _ hsz).trans hblk
              obtain ⟨k0, k1, k2, k3, k4, f0, f1, f2, f3, f4⟩ := zero_cells hblk6
              have HD6 := hid_mk hd6
              clear hd6
              go_wp2
              refine bodyPost_ret (v := .tuple #[.agg #[.int .i64 8, .string ⟨#[]⟩, .string ⟨#[]⟩, .bool false, .bool false], .int .i64 (p6 : Int)]) (by simp [results, Try.results59, go_sem, k0, k1, k2, k3, k4]) rfl ⟨p6, by rw [HV.out]; rfl, by rw [HV.out, HD6.out], by omega, by omega, ?_⟩
              exact ((((hB6.setCell (Nat.le_refl _) _).setCell (Nat.le_refl _) _).setCell (Nat.le_refl _) _).setCell (Nat.le_refl _) _).setCell (Nat.le_refl _) _
            · rw [h] at ha hbk e1 e41
              clear hes hct h41 hbz hBM
              go_wp2_with (go_at_call 39; fail)
              refine (ha).mono ?_
              rintro e w' ⟨rfl, rfl⟩
              go_wp2_with (go_at_call 40; fail)
              refine (hbk).mono ?_
              rintro e w' ⟨rfl, rfl⟩
              go_wp2_with (go_at_call 63; fail)
              refine (hbd).mono ?_
              rintro e w6 ⟨p6, rfl, hd6, hp6, hp7, b6⟩
              have hB6 := hB.trans (b6.mono hB.size)
              have hblk6 : w6.heap[w.heap.size]? = some (.cells #[.int .i64 0, .string ⟨#[]⟩, .string ⟨#[]⟩, .bool false, .bool false] 27 (0, 0)) := (b6.block _ hsz).trans hblk
              obtain ⟨k0, k1, k2, k3, k4, f0, f1, f2, f3, f4⟩ := zero_cells hblk6
              have HD6 := hid_mk hd6
              clear hd6
              go_wp2
              refine bodyPost_ret (v := .tuple #[.agg #[.int .i64 8, .string ⟨#[]⟩, .string ⟨#[]⟩, .bool false, .bool false], .int .i64 (p6 : Int)]) (by simp [results, Try.results59, go_sem, k0, k1, k2, k3, k4]) rfl ⟨p6, by rw [HV.out]; rfl, by rw [HV.out, HD6.out], by omega, by omega, ?_⟩
              exact ((((hB6.setCell (Nat.le_refl _) _).setCell (Nat.le_refl _) _).setCell (Nat.le_refl _) _).setCell (Nat.le_refl _) _).setCell (Nat.le_refl _) _
            · rw [h] at ha hbk e1 e41
              clear hes hct h41 hbz hBM
              go_wp2_with (go_at_call 39; fail)
              refine (ha).mono ?_
              rintro e w' ⟨rfl, rfl⟩
              go_wp2_with (go_at_call 40; fail)
              refine (hbk).mono ?_
              rintro e w' ⟨rfl, rfl⟩
              go_wp2_with (go_at_call 63; fail)
              refine (hbd).mono ?_
              rintro e w6 ⟨p6, rfl, hd6, hp6, hp7, b6⟩
              have hB6 := hB.trans (b6.mono hB.size)
              have hblk6 : w6.heap[w.heap.size]? = some (.cells #[.int .i64 0, .string ⟨#[]⟩, .string ⟨#[]⟩, .bool false, .bool false] 27 (0, 0)) := (b6.block _ hsz).trans hblk
              obtain ⟨k0, k1, k2, k3, k4, f0, f1, f2, f3, f4⟩ := zero_cells hblk6
              have HD6 := hid_mk hd6
              clear hd6
              go_wp2
              refine bodyPost_ret (v := .tuple #[.agg #[.int .i64 8, .string ⟨#[]⟩, .string ⟨#[]⟩, .bool false, .bool false], .int .i64 (p6 : Int)]) (by simp [results, Try.results59, go_sem, k0, k1, k2, k3, k4]) rfl ⟨p6, by rw [HV.out]; rfl, by rw [HV.out, HD6.out], by omega, by omega, ?_⟩
              exact ((((hB6.setCell (Nat.le_refl _) _).setCell (Nat.le_refl _) _).setCell (Nat.le_refl _) _).setCell (Nat.le_refl _) _).setCell (Nat.le_refl _) _
            · have n34 : (hd xs p == 34) = false := by
                have : hd xs p ≠ 34 := fun e => by rw [e] at h; exact absurd h (by decide)
                simpa using this
              have n39 : (hd xs p == 39) = false := by
                have : hd xs p ≠ 39 := fun e => by rw [e] at h; exact absurd h (by decide)
                simpa using this
              have n40 : (hd xs p == 40) = false := by
                have : hd xs p ≠ 40 := fun e => by rw [e] at h; exact absurd h (by decide)
                simpa using this
              rw [h] at hct
              clear hes h41 hbz hBM h
              generalize hd xs p = c at *
              go_wp2_with (go_at_call 39; fail)
              refine (ha).mono ?_
              rintro e w' ⟨rfl, rfl⟩
              go_wp2_with (go_at_call 40; fail)
              refine (hbk).mono ?_
              rintro e w' ⟨rfl, rfl⟩
              go_wp2_with (go_at_call 64; fail)
              refine (hct).mono ?_
              rintro e w' ⟨rfl, rfl⟩
              go_wp2_with (go_at_call 63; fail)
              refine (hbd).mono ?_
              rintro e w6 ⟨p6, rfl, hd6, hp6, hp7, b6⟩
              have hB6 := hB.trans (b6.mono hB.size)
              have hblk6 : w6.heap[w.heap.size]? = some (.cells #[.int .i64 0, .string ⟨#[]⟩, .string ⟨#[]⟩, .bool false, .bool false] 27 (0, 0)) := (b6.block _ hsz).trans hblk
              obtain ⟨k0, k1, k2, k3, k4, f0, f1, f2, f3, f4⟩ := zero_cells hblk6
              have HD6 := hid_mk hd6
              clear hd6
              go_wp2
              refine bodyPost_ret (v := .tuple #[.agg #[.int .i64 8, .string ⟨#[]⟩, .string ⟨#[]⟩, .bool false, .bool false], .int .i64 (p6 : Int)]) (by simp [results, Try.results59, go_sem, k0, k1, k2, k3, k4]) rfl ⟨p6, by rw [HV.out]; rfl, by rw [HV.out, HD6.out], by omega, by omega, ?_⟩
              exact ((((hB6.setCell (Nat.le_refl _) _).setCell (Nat.le_refl _) _).setCell (Nat.le_refl _) _).setCell (Nat.le_refl _) _).setCell (Nat.le_refl _) _
            · rw [h] at ha hbk e1 e41 hct
              rw [h'] at hes
              have hct2 : ctrlZ 92 = false := by decide
              rw [hct2] at hct
              clear h41 hbz hBM
              go_wp2_with (go_at_call 39; fail)
              refine (ha).mono ?_
              rintro e w' ⟨rfl, rfl⟩
              go_wp2_with (go_at_call 40; fail)
              refine (hbk).mono ?_
              rintro e w' ⟨rfl, rfl⟩
              go_wp2_with (go_at_call 64; fail)
              refine (hct).mono ?_
              rintro e w' ⟨rfl, rfl⟩
              go_wp2_with (go_at_call 44; fail)
              refine (hes).mono ?_
              rintro e w' ⟨rfl, rfl⟩
              go_wp2_with (go_at_call 63; fail)
              refine (hbd).mono ?_
              rintro e w6 ⟨p6, rfl, hd6, hp6, hp7, b6⟩
              have hB6 := hB.trans (b6.mono hB.size)
              have hblk6 : w6.heap[w.heap.size]? = some (.cells #[.int .i64 0, .string ⟨#[]⟩, .string ⟨#[]⟩, .bool false, .bool false] 27 (0, 0)) := (b6.block _ hsz).trans hblk
              obtain ⟨k0, k1, k2, k3, k4, f0, f1, f2, f3, f4⟩ := zero_cells hblk6
              have HD6 := hid_mk hd6
              clear hd6
              go_wp2
              refine bodyPost_ret (v := .tuple #[.agg #[.int .i64 8, .string ⟨#[]⟩, .string ⟨#[]⟩, .bool false, .bool false], .int .i64 (p6 : Int)]) (by simp [results, Try.results59, go_sem, k0, k1, k2, k3, k4]) rfl ⟨p6, by rw [HV.out]; rfl, by rw [HV.out, HD6.out], by omega, by omega, ?_⟩
              exact ((((hB6.setCell (Nat.le_refl _) _).setCell (Nat.le_refl _) _).setCell (Nat.le_refl _) _).setCell (Nat.le_refl _) _).setCell (Nat.le_refl _) _
          · have n34 : hd xs p ≠ 34 := fun e => hbad (.inl e)
            have n39 : hd xs p ≠ 39 := fun e => hbad (.inr (.inl e))
            have n40 : hd xs p ≠ 40 := fun e => hbad (.inr (.inr (.inl e)))
            have nct : ctrlZ (hd xs p) = false := by
              cases hh : ctrlZ (hd xs p)
              · rfl
              · exact absurd (.inr (.inr (.inr (.inl hh)))) hbad
            have nes : hd xs p = 92 → escB (xs.drop p) = true := by
              intro h
              cases hh : escB (xs.drop p)
              · exact absurd (.inr (.inr (.inr (.inr ⟨h, hh⟩)))) hbad
              · rfl
            rw [nct] at hct hON
            simp only [Bool.false_eq_true, if_false] at hON
            clear hbad
            by_cases h92 : hd xs p = 92
            · have hE := nes h92
              rw [if_pos h92, hE] at hON
              obtain ⟨hT2, hR2⟩ := url_esc hlt hON hE
              have HN : Hid (urlEnd ((acc ++ [(escT (xs.drop (p + 1))).1]) ++ urlT (xs.drop (p + 1 + (escT (xs.drop (p + 1))).2)) 0) (urlR (xs.drop (p + 1 + (escT (xs.drop (p + 1))).2)) 0) = urlZ (xs.drop i)) := by
                have := HF.out
                rw [hT2, hR2] at this
                rw [List.append_assoc]
                exact this
              have HCH2 := hid_mk (escT_char (t := xs.drop (p + 1)) (fun c hc => HH.out.2.2 c (List.mem_of_mem_drop hc)))
              have hsc := rescaped_any hrow HH.out.2 p p rfl hlt
              have hle := escT_len (xs.drop (p + 1))
              rw [List.length_drop] at hle
              rw [h92] at ha hbk e1 e41 hct
              rw [hE] at hes
              clear hON hT2 hR2 HF nes n34 n39 n40 nct h41 hbz hE hc0
              clear hBM h92
              generalize escT (xs.drop (p + 1)) = ec at *
              obtain ⟨c, n⟩ := ec
              simp only at *
              go_wp2_with (go_at_call 39; fail)
              refine (ha).mono ?_
              rintro e w' ⟨rfl, rfl⟩
              go_wp2_with (go_at_call 40; fail)
              refine (hbk).mono ?_
              rintro e w' ⟨rfl, rfl⟩
              go_wp2_with (go_at_call 64; fail)
              refine (hct).mono ?_
              rintro e w' ⟨rfl, rfl⟩
              go_wp2_with (go_at_call 44; fail)
              refine (hes).mono ?_
              rintro e w' ⟨rfl, rfl⟩
              go_wp2_with (go_at_call 53; fail)
              refine (hsc).mono ?_
              rintro e w' ⟨rfl, rfl⟩
              go_wp2_with (at_builtin; go_must (refine wpList_append_own _ rfl _ _ 49 rfl (w.heap.size + 1) 21 i0 (.int .i32 0) 1 4 Try.underlying49 hi0 hz0 hz1 hz2 rfl (by decide) _ _ _ rfl (hown.alloc _) ⟨wr.heap.size, 0, none⟩ 1 1 [.int .i32 c] rfl rfl (cell_one_new _ _ _) (by intro u hu; simp at hu; subst hu; rfl) (by unfold maxLen; omega) (by omega) (by simp; omega) ?_); intro v' w5 hown5 hgrow5 _)
              go_roundw
              case rel => exact ⟨p + 1 + n, acc ++ [c], by first | rfl | go_num, by simpa using hown5, by omega, by omega, (hB.alloc hB.size _).grown hgrow5 (by have := hB.size; simp; omega) (fun k hk => by have := (hown.lt k hk).1; omega), by have := hgrow5.size; simp at this; omega, zero_grown (hown.alloc _) (Nat.lt_succ_self _) ((heap_alloc_old wr _ hsz).trans hblk) hgrow5, HN.out, by simp; omega, chars_snoc HC.out HCH2.out⟩
              case measure => simp [intOf]; omega
            · rw [if_neg h92] at hON
              have hON2 : urlOn (xs.drop p) = true := by rw [hON]; simp [n34, n39, n40, h41]
              obtain ⟨hT2, hR2⟩ := url_plain hlt hON2 (escB_no h92)
              have HN : Hid (urlEnd ((acc ++ [hd xs p]) ++ urlT (xs.drop (p + 1)) 0) (urlR (xs.drop (p + 1)) 0) = urlZ (xs.drop i)) := by
                have := HF.out
                rw [hT2, hR2] at this
                rw [List.append_assoc]
                exact this
              have m34 : (hd xs p == 34) = false := by simpa using n34
              have m39 : (hd xs p == 39) = false := by simpa using n39
              have m40 : (hd xs p == 40) = false := by simpa using n40
              have m92 : (hd xs p == 92) = false := by simpa using h92
              clear hBM hON hON2 hT2 hR2 HF nes n34 n39 n40 nct h41 hbz h92 hes
              generalize hd xs p = c at *
              go_wp2_with (go_at_call 39; fail)
              refine (ha).mono ?_
              rintro e w' ⟨rfl, rfl⟩
              go_wp2_with (go_at_call 40; fail)
              refine (hbk).mono ?_
              rintro e w' ⟨rfl, rfl⟩
              go_wp2_with (go_at_call 64; fail)
              refine (hct).mono ?_
              rintro e w' ⟨rfl, rfl⟩
              go_wp2_with (at_builtin; go_must (refine wpList_append_own _ rfl _ _ 49 rfl (w.heap.size + 1) 21 i0 (.int .i32 0) 1 4 Try.underlying49 hi0 hz0 hz1 hz2 rfl (by decide) _ _ _ rfl (hown.alloc _) ⟨wr.heap.size, 0, none⟩ 1 1 [.int .i32 c] rfl rfl (cell_one_new _ _ _) (by intro u hu; simp at hu; subst hu; rfl) (by unfold maxLen; omega) (by omega) (by simp; omega) ?_); intro v' w5 hown5 hgrow5 _)
              go_roundw
              case rel => exact ⟨p + 1, acc ++ [c], by first | rfl | go_num, by simpa using hown5, by omega, by omega, (hB.alloc hB.size _).grown hgrow5 (by have := hB.size; simp; omega) (fun k hk => by have := (hown.lt k hk).1; omega), by have := hgrow5.size; simp at this; omega, zero_grown (hown.alloc _) (Nat.lt_succ_self _) ((heap_alloc_old wr _ hsz).trans hblk) hgrow5, HN.out, by simp; omega, chars_snoc HC.out HCH.out⟩
              case measure => simp [intOf]; omega
        · rw [hbz] at hbk hON
          have hoff := url_off (l := xs.drop p) (by rw [hON]; rfl)
          have HV0 : Hid (urlEnd acc (xs.drop p) = urlZ (xs.drop i)) := by
            have := HF.out
            rw [hoff.1, hoff.2, List.append_nil] at this
            exact this
          have hBM : Hid ((if blankZ (hd xs p) then 1 else 0) = 1) := by show (if blankZ (hd xs p) then 1 else 0) = 1; rw [hbz]; rfl
          have hbl2 := rblanks_any hrow HH.out.2 p p rfl hp
          have HBZ := hid_mk hbz
          clear hON hoff HF hbz h41
          generalize hc : hd xs p = c at *
          have HCC := hid_mk hc
          clear hc
          go_wp2_with (go_at_call 39; fail)
          refine (ha).mono ?_
          rintro e w' ⟨rfl, rfl⟩
          go_wp2_with (go_at_call 40; fail)
          refine (hbk).mono ?_
          rintro e w' ⟨rfl, rfl⟩
          go_wp2_with (go_at_call 41; fail)
          refine (hbl2).mono ?_
          rintro e w' ⟨p2, rfl, hdr2, hp21, hp22, rfl⟩
          have ha2 := rat_any hrow HH.out.2 p2 p2 rfl
          have HV1 : Hid (urlEnd acc (xs.drop p2) = urlZ (xs.drop i)) := by
            show urlEnd acc (xs.drop p2) = urlZ (xs.drop i)
            rw [← HV0.out]
            exact urlEnd_blank hdr2
          have hnb : blankZ (hd xs p2) = false := by
            have h := blanksR_hd (xs.drop p)
            rw [← hdr2, hd_drop, Nat.add_zero] at h
            exact h
          have hpp : p < p2 := by
            rcases Nat.lt_or_ge p p2 with h | h
            · exact h
            · exfalso
              have : p2 = p := by omega
              rw [this, HCC.out, HBZ.out] at hnb
              cases hnb
          clear hdr2
          by_cases hgood : hd xs p2 = 41 ∨ p2 = xs.length
          · have hoff2 : urlT (xs.drop p2) 0 = [] ∧ urlR (xs.drop p2) 0 = xs.drop p2 := by
              rcases hgood with h | h
              · by_cases hlt2 : p2 < xs.length
                · exact url_off (by rw [urlOn_at hlt2, h]; rfl)
                · rw [hd_end hlt2] at h; exact absurd h (by decide)
              · rw [h, List.drop_length]; exact ⟨rfl, rfl⟩
            have HN : Hid (urlEnd (acc ++ urlT (xs.drop p2) 0) (urlR (xs.drop p2) 0) = urlZ (xs.drop i)) := by
              show urlEnd (acc ++ urlT (xs.drop p2) 0) (urlR (xs.drop p2) 0) = urlZ (xs.drop i)
              rw [hoff2.1, hoff2.2, List.append_nil]
              exact HV1.out
            clear hoff2 hnb hBM
            by_cases h41 : hd xs p2 = 41
            · rw [h41] at ha2
              clear hgood h41
              go_wp2_with (go_at_call 39; fail)
              refine (ha2).mono ?_
              rintro e w' ⟨rfl, rfl⟩
              go_wp2
              go_roundw
              case rel => exact ⟨p2, acc, rfl, hown, by omega, hp22, hB, hsz, hblk, HN.out, by omega, HC.out⟩
              case measure => simp [intOf]; omega
            · have hpl : p2 = xs.length := hgood.resolve_left h41
              have hm1 : hd xs p2 = -1 := hd_end (by omega)
              rw [hm1] at ha2
              clear hgood h41 hpl hm1
              go_wp2_with (go_at_call 39; fail)
              refine (ha2).mono ?_
              rintro e w' ⟨rfl, rfl⟩
              go_wp2_with (go_at_call 39; fail)
              refine (ha2).mono ?_
              rintro e w' ⟨rfl, rfl⟩
              go_wp2
              go_roundw
              case rel => exact ⟨p2, acc, rfl, hown, by omega, hp22, hB, hsz, hblk, HN.out, by omega, HC.out⟩
              case measure => simp [intOf]; omega
          · have h41 : hd xs p2 ≠ 41 := fun e => hgood (.inl e)
            have hlt2 : p2 < xs.length := by
              rcases Nat.lt_or_ge p2 xs.length with h | h
              · exact h
              · exact absurd (.inr (by omega)) hgood
            have HV : Hid (urlZ (xs.drop i) = (plainTok 8 [], badR (xs.drop p2) 0)) := by
              show urlZ (xs.drop i) = _
              rw [← HV1.out, urlEnd_bad hlt2 hnb h41]
            have hc2 : 0 ≤ hd xs p2 := (HH.out.2.2 (hd xs p2) (by have := drop_hd hlt2; exact List.mem_of_mem_drop (i := p2) (by rw [this]; simp))).1
            have m41 : (hd xs p2 != 41) = true := by simpa using h41
            have m1 : (hd xs p2 != -1) = true := by simp; omega
            have hbd := rbad_any hrow HH.out.2 p2 p2 rfl hp22
            clear hgood h41 hnb hBM
            generalize hd xs p2 = c2 at *
            go_wp2_with (go_at_call 39; fail)
            refine (ha2).mono ?_
            rintro e w' ⟨rfl, rfl⟩
            go_wp2_with (go_at_call 39; fail)
            refine (ha2).mono ?_
            rintro e w' ⟨rfl, rfl⟩
            go_wp2_with (go_at_call 63; fail)
            refine (hbd).mono ?_
            rintro e w6 ⟨p6, rfl, hd6, hp6, hp7, b6⟩
            have hB6 := hB.trans (b6.mono hB.size)
            have hblk6 : w6.heap[w.heap.size]? = some (.cells #[.int .i64 0, .string ⟨#[]⟩, .string ⟨#[]⟩, .bool false, .bool false] 27 (0, 0)) := (b6.block _ hsz).trans hblk
            obtain ⟨k0, k1, k2, k3, k4, f0, f1, f2, f3, f4⟩ := zero_cells hblk6
            have HD6 := hid_mk hd6
            clear hd6
            go_wp2
            refine bodyPost_ret (v := .tuple #[.agg #[.int .i64 8, .string ⟨#[]⟩, .string ⟨#[]⟩, .bool false, .bool false], .int .i64 (p6 : Int)]) (by simp [results, Try.results59, go_sem, k0, k1, k2, k3, k4]) rfl ⟨p6, by rw [HV.out]; rfl, by rw [HV.out, HD6.out], by omega, by omega, ?_⟩
            exact ((((hB6.setCell (Nat.le_refl _) _).setCell (Nat.le_refl _) _).setCell (Nat.le_refl _) _).setCell (Nat.le_refl _) _).setCell (Nat.le_refl _) _
    · have hcv := conv_runes (ownsRow_row hown) HC.out
      rw [hd_end hlt] at ha
      have HV : Hid (urlZ (xs.drop i) = (plainTok 7 acc, xs.drop p)) := by
        have := HF.out
        rw [List.drop_eq_nil_of_le (Nat.le_of_not_lt hlt)] at this ⊢
        show urlZ (xs.drop i) = _
        rw [← this]
        simp [urlT, urlR, urlEnd_end]
      obtain ⟨k0, k1, k2, k3, k4, f0, f1, f2, f3, f4⟩ := zero_cells hblk
      go_wp2_with (go_at_call 39; fail)
      refine (ha).mono ?_
      rintro e w' ⟨rfl, rfl⟩
      go_wp2
      refine bodyPost_ret (v := .tuple #[.agg #[.int .i64 7, .string (strT acc), .string ⟨#[]⟩, .bool false, .bool false], .int .i64 ((p : Nat) : Int)]) (by simp [results, Try.results59, go_sem, k0, k1, k2, k3, k4]) rfl ⟨p, by rw [HV.out]; rfl, by rw [HV.out], by omega, by omega, ?_⟩
      exact ((((hB.setCell (Nat.le_refl _) _).setCell (Nat.le_refl _) _).setCell (Nat.le_refl _) _).setCell (Nat.le_refl _) _).setCell (Nat.le_refl _) _

end Go.Proofs.Ytihdiaklhkecmab
