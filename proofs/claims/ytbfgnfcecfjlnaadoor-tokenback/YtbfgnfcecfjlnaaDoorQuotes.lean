/- What token.Quote gives; which texts are clean. -/
import Derived.Test.YtbfgnfcecfjlnaaDoorBackStr
namespace Go.Proofs.YtbfgnfcecfjlnaaDoor
open Go.RowKit

def quoPartL (c : Int) : List Int := if unseenB c then unseenL c else if c = 34 ∨ c = 92 then slashL c else Lib.encodeRuneZ c
def quoL (s : ByteArray) : List Int := [34] ++ ((chars s).flatMap quoPartL ++ [34])
theorem quoPartL_len (c : Int) : (quoPartL c).length ≤ 5 := by
  have h1 := numL_len c
  have h2 := (Lib.encodeRuneZ_length c).2
  have h3 := (Lib.encodeRuneZ_length 65533).2
  unfold quoPartL
  split
  · unfold unseenL
    split
    · omega
    · omega
  · split
    · unfold slashL
      simp only [List.length_append, List.length_cons, List.length_nil]
      omega
    · omega
def QuoteGo (b : Nat) (ns : List Int) (s : ByteArray) (w wr : World) : Prop :=
  ∃ (pos fuel : Nat) (ns' : List Int), wr.heap[w.heap.size]? = some (.stringIter s pos) ∧ Wr b ns' wr ∧ Below b w wr ∧ Lib.OthersKept 5 (some b) w wr ∧ ns' ++ (charsFrom s fuel pos).flatMap quoPartL = ns ++ (chars s).flatMap quoPartL ∧ s.size ≤ pos + fuel ∧ ns'.length ≤ ns.length + 5 * pos ∧ pos ≤ s.size

set_option maxHeartbeats 4000000 in
set_option maxRecDepth 100000 in
theorem quoted_k (b : Nat) (ns : List Int) (s : ByteArray) (hs : s.size ≤ 1000000000) (w : World) (h : Wr b ns w) (ht : Tab w) (h3 : 3 < b) (hlen : ns.length ≤ 10000000000) :
    Calls Tryd.prog 19 #[.pointer (some ⟨b, 0, none⟩), .string s] w fun e w' => e = .returned (.tuple #[]) ∧ Wr b (ns ++ quoL s) w' ∧ Below b w w' ∧ Lib.OthersKept 5 (some b) w w' := by
  have HL : Hid (ns ++ quoL s = (ns ++ [34]) ++ (chars s).flatMap quoPartL ++ [34]) := by show ns ++ quoL s = _; unfold quoL; simp
  go_enter Tryd.func19, Tryd.ntmps19
  go_wp2_with (go_at_call 22; fail)
  refine (wr_byte_k b ns 34 (by omega) w h (by omega)).mono ?_
  rintro e w1 ⟨rfl, h1, b1, k1⟩
  have hltb := wr_lt h1
  have ht1 := tab_below ht b1 h3
  have hl1 : (ns ++ [34]).length ≤ 10000000001 := by rw [List.length_append]; simp; omega
  generalize ns ++ [34] = ns1 at *
  go_wp2
  go_loopw [] (fun wr => QuoteGo b ns1 s w1 wr) (fun wr => s.size - wr.iterPos w1.heap.size)
  case atStart =>
    have hal : Below w1.heap.size w1 (w1.iter s 0) := Below.iter (Below.refl _ w1) (Nat.le_refl _) s 0
    exact ⟨0, s.size, ns1, World.iter_heap w1 s 0, wr_below h1 hal (by omega), hal.mono (by omega), kept_below hal, rfl, by omega, by omega, by omega⟩
  case round =>
    obtain ⟨pos, fuel, ns', hit, hw, hbw, hok, heq, hfu, hln, hps⟩ := hrel
    have HQ : Hid (ns1 ++ (chars s).flatMap quoPartL = ns' ++ (charsFrom s fuel pos).flatMap quoPartL) := heq.symm
    clear heq h h1
    by_cases hp : pos < s.size
    · have hnx : ∀ ty, (Instr.next (.pointer (some ⟨w1.heap.size, 0, none⟩)) true ty).run Tryd.prog wr = _ := fun ty => Lib.run_next_any_at wr w1.heap.size s pos ty hit hp
      have hwd := Lib.decode_width_pos s pos hp
      have hch := dec_char s pos
      have hw2 : (Utf8.decode s pos).2 ≤ s.size - pos := by
        rw [Lib.decode_at]
        exact decodeN_width _ _ _ _ _ (by omega)
      obtain ⟨f, rfl⟩ : ∃ f, fuel = f + 1 := ⟨fuel - 1, by omega⟩
      have HA : Hid ((charsFrom s (f + 1) pos).flatMap quoPartL = quoPartL (Utf8.decode s pos).1 ++ (charsFrom s f (pos + (Utf8.decode s pos).2)).flatMap quoPartL) := by show _ = _; rw [charsFrom, if_pos hp, List.flatMap_cons]
      have hit3 := Lib.iterAt_heap wr w1.heap.size s pos (pos + (Utf8.decode s pos).2) hit
      have hbw3 := Lib.below_iterAt hbw (k := w1.heap.size) (by omega) s (pos + (Utf8.decode s pos).2)
      have hw3 := wr_iter hw hit (pos + (Utf8.decode s pos).2)
      have hok3 : Lib.OthersKept 5 (some b) w1 (wr.iterAt w1.heap.size s (pos + (Utf8.decode s pos).2)) := by
        intro k x hk hb hx
        have h1 := hok k x hk hb hx
        have hlt := (Array.getElem?_eq_some_iff.1 hk).1
        exact (Lib.iterAt_other wr w1.heap.size k s _ (by omega)).trans h1
      generalize Utf8.decode s pos = dc at *
      obtain ⟨c, d⟩ := dc
      simp only at *
      generalize wr.iterAt w1.heap.size s (pos + d) = W3 at *
      have hm : ∀ W : World, W.heap[w1.heap.size]? = some (.stringIter s (pos + d)) → s.size - W.iterPos w1.heap.size < s.size - wr.iterPos w1.heap.size := by
        intro W hW
        simp only [World.iterPos, hW, hit]
        omega
      have t3 := tab_below ht1 hbw3 h3
      have hun := unseen_k b ns' c hch W3 hw3 t3 h3 (by omega)
      have hpl := quoPartL_len c
      have HPos : Hid (1 ≤ d) := hwd
      have hc32 := char_32 hch
      clear hbw hit hok hw
      cases hu : unseenB (c : Int)
      · rw [hu, enc_of_part _ _ hu] at hun
        by_cases hq : (c : Int) = 34 ∨ (c : Int) = 92
        · have HX : Hid (quoPartL c = slashL c) := by show quoPartL c = _; unfold quoPartL; rw [hu, if_neg (by decide), if_pos hq]
          rw [HX.out] at hpl
          rcases hq with h34 | h92
          · rw [h34] at hun
            go_wp2_with (go_at_call 42; fail)
            refine (hun).mono ?_
            rintro e w4 ⟨rfl, h4, b4, k4⟩
            have hsl := slashed_k b ns' 34 ⟨by omega, by omega, by omega⟩ w4 h4 (by omega)
            rw [h34] at HX hpl
            go_wp2_with (go_at_call 43; fail)
            refine (hsl).mono ?_
            rintro e w5 ⟨rfl, h5, b5, k5⟩
            go_wp2
            go_roundw
            case rel =>
              have hp1 := HPos.out
              refine ⟨pos + d, f, _, (k4.trans k5).iter hit3 (by omega), h5, hbw3.trans (b4.trans b5), hok3.trans (k4.trans k5), ?_, by omega, ?_, by omega⟩
              · rw [HQ.out, HA.out, h34, HX.out, List.append_assoc]
              · rw [List.length_append]
                omega
            case measure => exact hm _ ((k4.trans k5).iter hit3 (by omega))
          · rw [h92] at hun
            go_wp2_with (go_at_call 42; fail)
            refine (hun).mono ?_
            rintro e w4 ⟨rfl, h4, b4, k4⟩
            have hsl := slashed_k b ns' 92 ⟨by omega, by omega, by omega⟩ w4 h4 (by omega)
            rw [h92] at HX hpl
            go_wp2_with (go_at_call 43; fail)
            refine (hsl).mono ?_
            rintro e w5 ⟨rfl, h5, b5, k5⟩
            go_wp2
            go_roundw
            case rel =>
              have hp1 := HPos.out
              refine ⟨pos + d, f, _, (k4.trans k5).iter hit3 (by omega), h5, hbw3.trans (b4.trans b5), hok3.trans (k4.trans k5), ?_, by omega, ?_, by omega⟩
              · rw [HQ.out, HA.out, h92, HX.out, List.append_assoc]
              · rw [List.length_append]
                omega
            case measure => exact hm _ ((k4.trans k5).iter hit3 (by omega))
        · have HX : Hid (quoPartL c = Lib.encodeRuneZ c) := by show quoPartL c = _; unfold quoPartL; rw [hu, if_neg (by decide), if_neg hq]
          rw [HX.out] at hpl
          have m34 : ((c : Int) == 34) = false := by simp; omega
          have m92 : ((c : Int) == 92) = false := by simp; omega
          clear hq
          go_wp2_with (go_at_call 42; fail)
          refine (hun).mono ?_
          rintro e w4 ⟨rfl, h4, b4, k4⟩
          have hwr := wr_rune_k b ns' c hc32.1 hc32.2 w4 h4 (by omega)
          go_wp2_with (go_at_call 44; fail)
          refine (hwr).mono ?_
          rintro e w5 ⟨⟨rn, rfl⟩, h5, b5, k5⟩
          go_wp2
          go_roundw
          case rel =>
            have hp1 := HPos.out
            refine ⟨pos + d, f, _, (k4.trans k5).iter hit3 (by omega), h5, hbw3.trans (b4.trans b5), hok3.trans (k4.trans k5), ?_, by omega, ?_, by omega⟩
            · rw [HQ.out, HA.out, HX.out, List.append_assoc]
            · rw [List.length_append]
              omega
          case measure => exact hm _ ((k4.trans k5).iter hit3 (by omega))
      · rw [hu] at hun
        have HX : Hid (quoPartL c = unseenL c) := by show quoPartL c = _; unfold quoPartL; rw [if_pos hu]
        rw [HX.out] at hpl
        go_wp2_with (go_at_call 42; fail)
        refine (hun).mono ?_
        rintro e w4 ⟨rfl, h4, b4, k4⟩
        go_wp2
        go_roundw
        case rel =>
          have hp1 := HPos.out
          refine ⟨pos + d, f, _, k4.iter hit3 (by omega), h4, hbw3.trans b4, hok3.trans k4, ?_, by omega, ?_, by omega⟩
          · rw [HQ.out, HA.out, HX.out, List.append_assoc]
          · rw [List.length_append]
            omega
        case measure => exact hm _ (k4.iter hit3 (by omega))
    · have hnx : ∀ ty, (Instr.next (.pointer (some ⟨w1.heap.size, 0, none⟩)) true ty).run Tryd.prog wr = _ := fun ty => Lib.run_next_end_at wr w1.heap.size s pos ty hit hp
      have HE : Hid (ns' = ns1 ++ (chars s).flatMap quoPartL) := by
        show ns' = ns1 ++ (chars s).flatMap quoPartL
        have := HQ.out
        rw [charsFrom_end _ _ _ hp] at this
        simpa using this.symm
      have hbyte := wr_byte_k b ns' 34 (by omega) wr hw (by omega)
      go_wp2_with (go_at_call 22; fail)
      refine (hbyte).mono ?_
      rintro e w5 ⟨rfl, h5, b5, k5⟩
      go_wp2
      go_end0
      exact ⟨rfl, by rw [HL.out, ← HE.out]; exact h5, b1.trans (hbw.trans b5), k1.trans (hok.trans k5)⟩

set_option maxHeartbeats 1000000 in
theorem quote_str (s : ByteArray) (hs : s.size ≤ 1000000000) (w : World) (ht : Tab w) (h3 : 3 < w.heap.size) :
    Calls Tryd.prog 10 #[.string s] w fun e w' => e = .returned (.string (strOfNums (quoL s))) ∧ Below w.heap.size w w' := by
  have hw := wr_new w
  have htA := tab_alloc ht h3 (.cells #[.pointer none, .slice none 0 0] 44)
  have hB : Below w.heap.size w (w.alloc (.cells #[.pointer none, .slice none 0 0] 44)) := (Below.refl _ w).alloc (Nat.le_refl _) _
  have hn := quoted_k w.heap.size [] s hs _ hw htA h3 (by simp)
  rw [List.nil_append] at hn
  clear ht htA hw
  go_enter Tryd.func10, Tryd.ntmps10
  go_wp2_with (go_at_call 19; fail)
  refine (hn).mono ?_
  rintro e w1 ⟨rfl, h1, b1, k1⟩
  go_wp2_with (go_at_call 20; fail)
  refine (wr_string w.heap.size (quoL s) w1 h1).mono ?_
  rintro e w2 ⟨rfl, b2⟩
  go_wp2
  go_ret
  exact ⟨rfl, hB.trans (b1.trans b2)⟩

/-! ### clean texts -/

def cleanC (c : Int) : Bool := !(c == 0 || c == 65533)
set_option maxHeartbeats 1000000 in
theorem clean_any (s : ByteArray) (w : World) : Calls Tryd.prog 7 #[.string s] w fun e w' => e = .returned (.bool ((chars s).all cleanC)) ∧ Below w.heap.size w w' := by
  go_enter Tryd.func7, Tryd.ntmps7
  go_wp2
  go_loopw [] (fun wr => ∃ (pos fuel : Nat), wr.heap[w.heap.size]? = some (.stringIter s pos) ∧ Below w.heap.size w wr ∧ (charsFrom s fuel pos).all cleanC = (chars s).all cleanC ∧ s.size ≤ pos + fuel) (fun wr => s.size - wr.iterPos w.heap.size)
  case atStart =>
    exact ⟨0, s.size, World.iter_heap w s 0, Below.iter (Below.refl _ w) (Nat.le_refl _) s 0, rfl, by omega⟩
  case round =>
    obtain ⟨pos, fuel, hit, hbw, heq, hfu⟩ := hrel
    have HQ : Hid ((charsFrom s fuel pos).all cleanC = (chars s).all cleanC) := heq
    clear heq
    by_cases hp : pos < s.size
    · have hnx : ∀ ty, (Instr.next (.pointer (some ⟨w.heap.size, 0, none⟩)) true ty).run Tryd.prog wr = _ := fun ty => Lib.run_next_any_at wr w.heap.size s pos ty hit hp
      have hwd := Lib.decode_width_pos s pos hp
      obtain ⟨f, rfl⟩ : ∃ f, fuel = f + 1 := ⟨fuel - 1, by omega⟩
      have HA : Hid ((charsFrom s (f + 1) pos).all cleanC = (cleanC (Utf8.decode s pos).1 && (charsFrom s f (pos + (Utf8.decode s pos).2)).all cleanC)) := by show _ = _; rw [charsFrom, if_pos hp, List.all_cons]
      have hit3 := Lib.iterAt_heap wr w.heap.size s pos (pos + (Utf8.decode s pos).2) hit
      have hbw3 := Lib.below_iterAt hbw (k := w.heap.size) (Nat.le_refl _) s (pos + (Utf8.decode s pos).2)
      generalize Utf8.decode s pos = dc at *
      obtain ⟨c, d⟩ := dc
      simp only at *
      generalize wr.iterAt w.heap.size s (pos + d) = W3 at *
      have hm : s.size - W3.iterPos w.heap.size < s.size - wr.iterPos w.heap.size := by
        simp only [World.iterPos, hit3, hit]
        omega
      clear hbw hit
      rcases (show (c : Int) = 0 ∨ (c : Int) = 65533 ∨ ((c : Int) ≠ 0 ∧ (c : Int) ≠ 65533) by omega) with h0 | h0 | ⟨n0, n1⟩
      · have e0 : ((c : Int) == 0) = true := by rw [h0]; rfl
        have HX : Hid (cleanC c = false) := by show cleanC c = false; unfold cleanC; rw [e0]; rfl
        clear h0
        go_wp2
        go_ret
        exact ⟨ret_bool (by rw [← HQ.out, HA.out, HX.out]; rfl), hbw3⟩
      · have e0 : ((c : Int) == 0) = false := by simp; omega
        have e1 : ((c : Int) == 65533) = true := by rw [h0]; rfl
        have HX : Hid (cleanC c = false) := by show cleanC c = false; unfold cleanC; rw [e0, e1]; rfl
        clear h0
        go_wp2
        go_ret
        exact ⟨ret_bool (by rw [← HQ.out, HA.out, HX.out]; rfl), hbw3⟩
      · have e0 : ((c : Int) == 0) = false := by simpa using n0
        have e1 : ((c : Int) == 65533) = false := by simpa using n1
        have HX : Hid (cleanC c = true) := by show cleanC c = true; unfold cleanC; rw [e0, e1]; rfl
        clear n0 n1
        go_wp2
        go_roundw
        case rel => exact ⟨pos + d, f, hit3, hbw3, by rw [← HQ.out, HA.out, HX.out]; rfl, by omega⟩
        case measure => exact hm
    · have hnx : ∀ ty, (Instr.next (.pointer (some ⟨w.heap.size, 0, none⟩)) true ty).run Tryd.prog wr = _ := fun ty => Lib.run_next_end_at wr w.heap.size s pos ty hit hp
      have HE : Hid ((chars s).all cleanC = true) := by
        have := HQ.out
        rw [charsFrom_end _ _ _ hp] at this
        exact this.symm
      go_wp2
      go_ret
      exact ⟨ret_bool (by rw [HE.out]), hbw⟩

/-! ### what a clean text's writing is cut into -/

theorem clean_parts {s : ByteArray} (h : (chars s).all cleanC = true) : (∀ c ∈ chars s, c ≠ 0) ∧ (∀ c ∈ chars s, c ≠ 65533) := by
  rw [List.all_eq_true] at h
  refine ⟨fun c hc => ?_, fun c hc => ?_⟩
  · have := h c hc
    unfold cleanC at this
    simp at this
    exact this.1
  · have := h c hc
    unfold cleanC at this
    simp at this
    exact this.2
theorem bytes_quo {c : Int} (h0 : c ≠ 0) : bytesZ (quoPart c) = quoPartL c := by
  unfold quoPart quoPartL
  split
  · rename_i h
    obtain ⟨h1, h2⟩ := unseen_cases h h0
    unfold unseenL
    rw [if_neg h0, if_pos h, bytes_num (by omega)]
  · split
    · unfold slashL
      rw [bytesZ_cons, Lib.encodeRuneZ_one (by omega) (by omega)]
      simp [bytesZ]
    · simp [bytesZ]
theorem flat_bytes (f g : Int → List Int) (xs : List Int) (h : ∀ c ∈ xs, bytesZ (f c) = g c) : bytesZ (xs.flatMap f) = xs.flatMap g := by
  induction xs with
  | nil => rfl
  | cons c r ih =>
    rw [List.flatMap_cons, List.flatMap_cons, bytesZ_app, h c (by simp), ih (fun d hd => h d (by simp [hd]))]
theorem bytes_quos (xs : List Int) (h : ∀ c ∈ xs, c ≠ 0) : bytesZ (xs.flatMap quoPart) = xs.flatMap quoPartL := flat_bytes quoPart quoPartL xs (fun c hc => bytes_quo (h c hc))
theorem told_34 : Told 34 := ⟨⟨by omega, by omega, by omega⟩, by omega, by omega, by omega⟩
theorem told_quoC {xs : List Int} (hc : ∀ c ∈ xs, IsChar c) (h0 : ∀ c ∈ xs, c ≠ 0) : ∀ x ∈ quoC xs, Told x := by
  intro x hx
  unfold quoC at hx
  rcases List.mem_cons.1 hx with rfl | hx
  · exact told_34
  · rcases List.mem_append.1 hx with hx | hx
    · obtain ⟨c, h1, h2⟩ := List.mem_flatMap.1 hx
      exact told_quo (hc c h1) (h0 c h1) x h2
    · simp at hx
      subst hx
      exact told_34
theorem cut_quote (s : ByteArray) (h : (chars s).all cleanC = true) : cutZ (strOfNums (quoL s)) = [plainTok 5 (chars s)] := by
  obtain ⟨h0, _⟩ := clean_parts h
  have hc : ∀ c ∈ chars s, IsChar c := chars_char s s.size 0
  have e : quoL s = bytesZ (quoC (chars s)) := by
    unfold quoL quoC
    rw [bytesZ_cons, bytesZ_app, bytes_quos _ h0, Lib.encodeRuneZ_one (by omega) (by omega)]
    simp [bytesZ, Lib.encodeRuneZ_one]
  unfold cutZ
  rw [e, runes_again (told_quoC hc h0)]
  exact toks_quoted _ h0
theorem cut_esc (s : ByteArray) (h : (chars s).all cleanC = true) (hne : chars s ≠ []) :
    cutZ (strOfNums (escL s)) = [plainTok 1 (chars s)] ∧ cutZ (⟨#[64]⟩ ++ strOfNums (escL s)) = [plainTok 3 (chars s)] ∧ cutZ (⟨#[35]⟩ ++ strOfNums (escL s)) = [mkTok 4 (chars s) [] false true] := by
  obtain ⟨h0, _⟩ := clean_parts h
  have hc : ∀ c ∈ chars s, IsChar c := chars_char s s.size 0
  have ht := told_esc (chars s) hc h0
  have hr := runes_again ht
  rw [esc_chars s h0]
  refine ⟨?_, ?_, ?_⟩
  · unfold cutZ
    rw [hr]
    exact toks_name _ hne h0
  · have h1 : ∀ c ∈ ([64] : List Int), Told c := by
      intro c hc
      simp at hc
      subst hc
      exact ⟨⟨by omega, by omega, by omega⟩, by omega, by omega, by omega⟩
    have h2 := joins h1 (strOfNums (bytesZ (escC (chars s))))
    have e : strOfNums (bytesZ [64]) = ⟨#[64]⟩ := by decide +kernel
    rw [e, hr] at h2
    unfold cutZ
    rw [h2]
    exact toks_at _ hne h0
  · have h1 : ∀ c ∈ ([35] : List Int), Told c := by
      intro c hc
      simp at hc
      subst hc
      exact ⟨⟨by omega, by omega, by omega⟩, by omega, by omega, by omega⟩
    have h2 := joins h1 (strOfNums (bytesZ (escC (chars s))))
    have e : strOfNums (bytesZ [35]) = ⟨#[35]⟩ := by decide +kernel
    rw [e, hr] at h2
    unfold cutZ
    rw [h2]
    exact toks_hash _ hne h0
theorem clean_str (s : ByteArray) (h : (chars s).all cleanC = true) : strT (chars s) = s := clean_bytes s (clean_parts h).2
theorem chars_none (s : ByteArray) : chars s = [] ↔ s.size = 0 := by
  unfold chars
  cases hz : s.size with
  | zero => simp [charsFrom]
  | succ n =>
    rw [charsFrom, if_pos (by omega)]
    simp
end Go.Proofs.YtbfgnfcecfjlnaaDoor
