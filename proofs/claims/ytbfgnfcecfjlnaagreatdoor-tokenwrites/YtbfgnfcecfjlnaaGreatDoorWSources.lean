/- What the writer writes: quoted texts, parts, units, and Source of each kind. -/
import Derived.Test.YtbfgnfcecfjlnaaGreatDoorWMath
namespace Go.Proofs.YtbfgnfcecfjlnaaGreatDoor
open Go.RowKit

def quoPartL (c : Int) : List Int := if unseenB c then unseenL c else if c = 34 ∨ c = 92 then slashL c else Lib.encodeRuneZ c
def quoL (s : ByteArray) : List Int := [34] ++ ((chars s).flatMap quoPartL ++ [34])
theorem quoPartL_len (c : Int) : (quoPartL c).length ≤ 5 := by
  have h1 := numL_len c
  have h2 := (Lib.encodeRuneZ_length c).2
  have h3 := (Lib.encodeRuneZ_length 65533).2
  unfold quoPartL
  split
  · unfold unseenL
    split
    · omega
    · omega
  · split
    · unfold slashL
      simp only [List.length_append, List.length_cons, List.length_nil]
      omega
    · omega
def QuoteGo (b : Nat) (ns : List Int) (s : ByteArray) (w wr : World) : Prop :=
  ∃ (pos fuel : Nat) (ns' : List Int), wr.heap[w.heap.size]? = some (.stringIter s pos) ∧ Wr b ns' wr ∧ Below b w wr ∧ Lib.OthersKept 5 (some b) w wr ∧ ns' ++ (charsFrom s fuel pos).flatMap quoPartL = ns ++ (chars s).flatMap quoPartL ∧ s.size ≤ pos + fuel ∧ ns'.length ≤ ns.length + 5 * pos ∧ pos ≤ s.size

set_option maxHeartbeats 4000000 in
set_option maxRecDepth 100000 in
theorem quoted_k (b : Nat) (ns : List Int) (s : ByteArray) (hs : s.size ≤ 1000000000) (w : World) (h : Wr b ns w) (ht : Tab w) (h3 : 3 < b) (hlen : ns.length ≤ 10000000000) :
    Calls Tryz.prog 45 #[.pointer (some ⟨b, 0, none⟩), .string s] w fun e w' => e = .returned (.tuple #[]) ∧ Wr b (ns ++ quoL s) w' ∧ Below b w w' ∧ Lib.OthersKept 5 (some b) w w' := by
  have HL : Hid (ns ++ quoL s = (ns ++ [34]) ++ (chars s).flatMap quoPartL ++ [34]) := by show ns ++ quoL s = _; unfold quoL; simp
  go_enter Tryz.func45, Tryz.ntmps45
  go_wp2_with (go_at_call 46; fail)
  refine (wr_byte_k b ns 34 (by omega) w h (by omega)).mono ?_
  rintro e w1 ⟨rfl, h1, b1, k1⟩
  have hltb := wr_lt h1
  have ht1 := tab_below ht b1 h3
  have hl1 : (ns ++ [34]).length ≤ 10000000001 := by rw [List.length_append]; simp; omega
  generalize ns ++ [34] = ns1 at *
  go_wp2
  go_loopw [] (fun wr => QuoteGo b ns1 s w1 wr) (fun wr => s.size - wr.iterPos w1.heap.size)
  case atStart =>
    have hal : Below w1.heap.size w1 (w1.iter s 0) := Below.iter (Below.refl _ w1) (Nat.le_refl _) s 0
    exact ⟨0, s.size, ns1, World.iter_heap w1 s 0, wr_below h1 hal (by omega), hal.mono (by omega), kept_below hal, rfl, by omega, by omega, by omega⟩
  case round =>
    obtain ⟨pos, fuel, ns', hit, hw, hbw, hok, heq, hfu, hln, hps⟩ := hrel
    have HQ : Hid (ns1 ++ (chars s).flatMap quoPartL = ns' ++ (charsFrom s fuel pos).flatMap quoPartL) := heq.symm
    clear heq h h1
    by_cases hp : pos < s.size
    · have hnx : ∀ ty, (Instr.next (.pointer (some ⟨w1.heap.size, 0, none⟩)) true ty).run Tryz.prog wr = _ := fun ty => Lib.run_next_any_at wr w1.heap.size s pos ty hit hp
      have hwd := Lib.decode_width_pos s pos hp
      have hch := dec_char s pos
      have hw2 : (Utf8.decode s pos).2 ≤ s.size - pos := by
        rw [Lib.decode_at]
        exact decodeN_width _ _ _ _ _ (by omega)
      obtain ⟨f, rfl⟩ : ∃ f, fuel = f + 1 := ⟨fuel - 1, by omega⟩
      have HA : Hid ((charsFrom s (f + 1) pos).flatMap quoPartL = quoPartL (Utf8.decode s pos).1 ++ (charsFrom s f (pos + (Utf8.decode s pos).2)).flatMap quoPartL) := by show _ = _; rw [charsFrom, if_pos hp, List.flatMap_cons]
      have hit3 := Lib.iterAt_heap wr w1.heap.size s pos (pos + (Utf8.decode s pos).2) hit
      have hbw3 := Lib.below_iterAt hbw (k := w1.heap.size) (by omega) s (pos + (Utf8.decode s pos).2)
      have hw3 := wr_iter hw hit (pos + (Utf8.decode s pos).2)
      have hok3 : Lib.OthersKept 5 (some b) w1 (wr.iterAt w1.heap.size s (pos + (Utf8.decode s pos).2)) := by
        intro k x hk hb hx
        have h1 := hok k x hk hb hx
        have hlt := (Array.getElem?_eq_some_iff.1 hk).1
        exact (Lib.iterAt_other wr w1.heap.size k s _ (by omega)).trans h1
      generalize Utf8.decode s pos = dc at *
      obtain ⟨c, d⟩ := dc
      simp only at *
      generalize wr.iterAt w1.heap.size s (pos + d) = W3 at *
      have hm : ∀ W : World, W.heap[w1.heap.size]? = some (.stringIter s (pos + d)) → s.size - W.iterPos w1.heap.size < s.size - wr.iterPos w1.heap.size := by
        intro W hW
        simp only [World.iterPos, hW, hit]
        omega
      have t3 := tab_below ht1 hbw3 h3
      have hun := unseen_k b ns' c hch W3 hw3 t3 h3 (by omega)
      have hpl := quoPartL_len c
      have HPos : Hid (1 ≤ d) := hwd
      have hc32 := char_32 hch
      clear hbw hit hok hw
      cases hu : unseenB (c : Int)
      · rw [hu, enc_of_part _ _ hu] at hun
        by_cases hq : (c : Int) = 34 ∨ (c : Int) = 92
        · have HX : Hid (quoPartL c = slashL c) := by show quoPartL c = _; unfold quoPartL; rw [hu, if_neg (by decide), if_pos hq]
          rw [HX.out] at hpl
          rcases hq with h34 | h92
          · rw [h34] at hun
            go_wp2_with (go_at_call 89; fail)
            refine (hun).mono ?_
            rintro e w4 ⟨rfl, h4, b4, k4⟩
            have hsl := slashed_k b ns' 34 ⟨by omega, by omega, by omega⟩ w4 h4 (by omega)
            rw [h34] at HX hpl
            go_wp2_with (go_at_call 85; fail)
            refine (hsl).mono ?_
            rintro e w5 ⟨rfl, h5, b5, k5⟩
            go_wp2
            go_roundw
            case rel =>
              have hp1 := HPos.out
              refine ⟨pos + d, f, _, (k4.trans k5).iter hit3 (by omega), h5, hbw3.trans (b4.trans b5), hok3.trans (k4.trans k5), ?_, by omega, ?_, by omega⟩
              · rw [HQ.out, HA.out, h34, HX.out, List.append_assoc]
              · rw [List.length_append]
                omega
            case measure => exact hm _ ((k4.trans k5).iter hit3 (by omega))
          · rw [h92] at hun
            go_wp2_with (go_at_call 89; fail)
            refine (hun).mono ?_
            rintro e w4 ⟨rfl, h4, b4, k4⟩
            have hsl := slashed_k b ns' 92 ⟨by omega, by omega, by omega⟩ w4 h4 (by omega)
            rw [h92] at HX hpl
            go_wp2_with (go_at_call 85; fail)
            refine (hsl).mono ?_
            rintro e w5 ⟨rfl, h5, b5, k5⟩
            go_wp2
            go_roundw
            case rel =>
              have hp1 := HPos.out
              refine ⟨pos + d, f, _, (k4.trans k5).iter hit3 (by omega), h5, hbw3.trans (b4.trans b5), hok3.trans (k4.trans k5), ?_, by omega, ?_, by omega⟩
              · rw [HQ.out, HA.out, h92, HX.out, List.append_assoc]
              · rw [List.length_append]
                omega
            case measure => exact hm _ ((k4.trans k5).iter hit3 (by omega))
        · have HX : Hid (quoPartL c = Lib.encodeRuneZ c) := by show quoPartL c = _; unfold quoPartL; rw [hu, if_neg (by decide), if_neg hq]
          rw [HX.out] at hpl
          have m34 : ((c : Int) == 34) = false := by simp; omega
          have m92 : ((c : Int) == 92) = false := by simp; omega
          clear hq
          go_wp2_with (go_at_call 89; fail)
          refine (hun).mono ?_
          rintro e w4 ⟨rfl, h4, b4, k4⟩
          have hwr := wr_rune_k b ns' c hc32.1 hc32.2 w4 h4 (by omega)
          go_wp2_with (go_at_call 61; fail)
          refine (hwr).mono ?_
          rintro e w5 ⟨⟨rn, rfl⟩, h5, b5, k5⟩
          go_wp2
          go_roundw
          case rel =>
            have hp1 := HPos.out
            refine ⟨pos + d, f, _, (k4.trans k5).iter hit3 (by omega), h5, hbw3.trans (b4.trans b5), hok3.trans (k4.trans k5), ?_, by omega, ?_, by omega⟩
            · rw [HQ.out, HA.out, HX.out, List.append_assoc]
            · rw [List.length_append]
              omega
          case measure => exact hm _ ((k4.trans k5).iter hit3 (by omega))
      · rw [hu] at hun
        have HX : Hid (quoPartL c = unseenL c) := by show quoPartL c = _; unfold quoPartL; rw [if_pos hu]
        rw [HX.out] at hpl
        go_wp2_with (go_at_call 89; fail)
        refine (hun).mono ?_
        rintro e w4 ⟨rfl, h4, b4, k4⟩
        go_wp2
        go_roundw
        case rel =>
          have hp1 := HPos.out
          refine ⟨pos + d, f, _, k4.iter hit3 (by omega), h4, hbw3.trans b4, hok3.trans k4, ?_, by omega, ?_, by omega⟩
          · rw [HQ.out, HA.out, HX.out, List.append_assoc]
          · rw [List.length_append]
            omega
        case measure => exact hm _ (k4.iter hit3 (by omega))
    · have hnx : ∀ ty, (Instr.next (.pointer (some ⟨w1.heap.size, 0, none⟩)) true ty).run Tryz.prog wr = _ := fun ty => Lib.run_next_end_at wr w1.heap.size s pos ty hit hp
      have HE : Hid (ns' = ns1 ++ (chars s).flatMap quoPartL) := by
        show ns' = ns1 ++ (chars s).flatMap quoPartL
        have := HQ.out
        rw [charsFrom_end _ _ _ hp] at this
        simpa using this.symm
      have hbyte := wr_byte_k b ns' 34 (by omega) wr hw (by omega)
      go_wp2_with (go_at_call 46; fail)
      refine (hbyte).mono ?_
      rintro e w5 ⟨rfl, h5, b5, k5⟩
      go_wp2
      go_end0
      exact ⟨rfl, by rw [HL.out, ← HE.out]; exact h5, b1.trans (hbw.trans b5), k1.trans (hok.trans k5)⟩

set_option maxHeartbeats 1000000 in
theorem quote_str (s : ByteArray) (hs : s.size ≤ 1000000000) (w : World) (ht : Tab w) (h3 : 3 < w.heap.size) :
    Calls Tryz.prog 15 #[.string s] w fun e w' => e = .returned (.string (strOfNums (quoL s))) ∧ Below w.heap.size w w' := by
  have hw := wr_new w
  have htA := tab_alloc ht h3 (.cells #[.pointer none, .slice none 0 0] 58)
  have hB : Below w.heap.size w (w.alloc (.cells #[.pointer none, .slice none 0 0] 58)) := (Below.refl _ w).alloc (Nat.le_refl _) _
  have hn := quoted_k w.heap.size [] s hs _ hw htA h3 (by simp)
  rw [List.nil_append] at hn
  clear ht htA hw
  go_enter Tryz.func15, Tryz.ntmps15
  go_wp2_with (go_at_call 45; fail)
  refine (hn).mono ?_
  rintro e w1 ⟨rfl, h1, b1, k1⟩
  go_wp2_with (go_at_call 41; fail)
  refine (wr_string w.heap.size (quoL s) w1 h1).mono ?_
  rintro e w2 ⟨rfl, b2⟩
  go_wp2
  go_ret
  exact ⟨rfl, hB.trans (b1.trans b2)⟩

/-! ### clean texts -/

def partsL (s : ByteArray) : List Int := (chars s).flatMap partL
def PartsGo (b : Nat) (ns : List Int) (s : ByteArray) (w wr : World) : Prop :=
  ∃ (pos fuel : Nat) (ns' : List Int), wr.heap[w.heap.size]? = some (.stringIter s pos) ∧ Wr b ns' wr ∧ Below b w wr ∧ Lib.OthersKept 5 (some b) w wr ∧ ns' ++ (charsFrom s fuel pos).flatMap partL = ns ++ partsL s ∧ s.size ≤ pos + fuel ∧ ns'.length ≤ ns.length + 5 * pos ∧ pos ≤ s.size

set_option maxHeartbeats 4000000 in
set_option maxRecDepth 100000 in
theorem parts_k (b : Nat) (ns : List Int) (s : ByteArray) (hs : s.size ≤ 1000000000) (w : World) (h : Wr b ns w) (ht : Tab w) (h3 : 3 < b) (hlen : ns.length ≤ 10000000000) :
    Calls Tryz.prog 91 #[.pointer (some ⟨b, 0, none⟩), .string s] w fun e w' => e = .returned (.tuple #[]) ∧ Wr b (ns ++ partsL s) w' ∧ Below b w w' ∧ Lib.OthersKept 5 (some b) w w' := by
  have hltb := wr_lt h
  go_enter Tryz.func91, Tryz.ntmps91
  go_wp2
  go_loopw [] (fun wr => PartsGo b ns s w wr) (fun wr => s.size - wr.iterPos w.heap.size)
  case atStart =>
    have hal : Below w.heap.size w (w.iter s 0) := Below.iter (Below.refl _ w) (Nat.le_refl _) s 0
    exact ⟨0, s.size, ns, World.iter_heap w s 0, wr_below h hal (by omega), hal.mono (by omega), kept_below hal, rfl, by omega, by omega, by omega⟩
  case round =>
    obtain ⟨pos, fuel, ns', hit, hw, hbw, hok, heq, hfu, hln, hps⟩ := hrel
    have HQ : Hid (ns ++ partsL s = ns' ++ (charsFrom s fuel pos).flatMap partL) := heq.symm
    clear heq h
    by_cases hp : pos < s.size
    · have hnx : ∀ ty, (Instr.next (.pointer (some ⟨w.heap.size, 0, none⟩)) true ty).run Tryz.prog wr = _ := fun ty => Lib.run_next_any_at wr w.heap.size s pos ty hit hp
      have hwd := Lib.decode_width_pos s pos hp
      have hch := dec_char s pos
      have hw2 : (Utf8.decode s pos).2 ≤ s.size - pos := by
        rw [Lib.decode_at]
        exact decodeN_width _ _ _ _ _ (by omega)
      obtain ⟨f, rfl⟩ : ∃ f, fuel = f + 1 := ⟨fuel - 1, by omega⟩
      have HA : Hid ((charsFrom s (f + 1) pos).flatMap partL = partL (Utf8.decode s pos).1 ++ (charsFrom s f (pos + (Utf8.decode s pos).2)).flatMap partL) := by show _ = _; rw [charsFrom, if_pos hp, List.flatMap_cons]
      have hit3 := Lib.iterAt_heap wr w.heap.size s pos (pos + (Utf8.decode s pos).2) hit
      have hbw3 := Lib.below_iterAt hbw (k := w.heap.size) (by omega) s (pos + (Utf8.decode s pos).2)
      have hw3 := wr_iter hw hit (pos + (Utf8.decode s pos).2)
      have hok3 : Lib.OthersKept 5 (some b) w (wr.iterAt w.heap.size s (pos + (Utf8.decode s pos).2)) := by
        intro k x hk hb hx
        have h1 := hok k x hk hb hx
        have hlt := (Array.getElem?_eq_some_iff.1 hk).1
        exact (Lib.iterAt_other wr w.heap.size k s _ (by omega)).trans h1
      generalize Utf8.decode s pos = dc at *
      obtain ⟨c, d⟩ := dc
      simp only at *
      generalize wr.iterAt w.heap.size s (pos + d) = W3 at *
      have hm : ∀ W : World, W.heap[w.heap.size]? = some (.stringIter s (pos + d)) → s.size - W.iterPos w.heap.size < s.size - wr.iterPos w.heap.size := by
        intro W hW
        simp only [World.iterPos, hW, hit]
        omega
      have t3 := tab_below ht hbw3 h3
      have hpart := part_k b ns' c hch W3 hw3 t3 h3 (by omega)
      have hpl := partL_len c
      have HPos : Hid (1 ≤ d) := hwd
      clear hbw hit hok hw
      go_wp2_with (go_at_call 87; fail)
      refine (hpart).mono ?_
      rintro e w5 ⟨rfl, h5, b5, k5⟩
      go_wp2
      go_roundw
      case rel =>
        have hp1 := HPos.out
        refine ⟨pos + d, f, _, k5.iter hit3 (by omega), h5, hbw3.trans b5, hok3.trans k5, ?_, by omega, ?_, by omega⟩
        · rw [HQ.out, HA.out, List.append_assoc]
        · rw [List.length_append]
          omega
      case measure => exact hm _ (k5.iter hit3 (by omega))
    · have hnx : ∀ ty, (Instr.next (.pointer (some ⟨w.heap.size, 0, none⟩)) true ty).run Tryz.prog wr = _ := fun ty => Lib.run_next_end_at wr w.heap.size s pos ty hit hp
      have HE : Hid (ns ++ partsL s = ns') := by
        show ns ++ partsL s = ns'
        have := HQ.out
        rw [charsFrom_end _ _ _ hp] at this
        simpa using this
      go_wp2
      go_end0
      exact ⟨rfl, by rw [HE.out]; exact hw, hbw, hok⟩

def eB (s : ByteArray) : Bool := decide (0 < s.size) && ((s.get! 0).toNat == 101 || (s.get! 0).toNat == 69)
def unitL (s : ByteArray) : List Int := if eB s then numL (s.get! 0).toNat ++ partsL (s.extract 1 s.size) else escL s

set_option maxHeartbeats 1000000 in
set_option maxRecDepth 100000 in
theorem unit_k (b : Nat) (ns : List Int) (s : ByteArray) (hs : s.size ≤ 1000000000) (h0 : 0 < s.size) (w : World) (h : Wr b ns w) (ht : Tab w) (h3 : 3 < b) (hlen : ns.length ≤ 1000000000) :
    Calls Tryz.prog 49 #[.pointer (some ⟨b, 0, none⟩), .string s] w fun e w' => e = .returned (.tuple #[]) ∧ Wr b (ns ++ unitL s) w' ∧ Below b w w' ∧ Lib.OthersKept 5 (some b) w w' := by
  have hne : s ≠ ⟨#[]⟩ := by
    intro e
    rw [e] at h0
    exact absurd h0 (by decide)
  have hne3 : (s.toList == []) = false := by
    rw [Bool.eq_false_iff]
    intro h
    rw [beq_iff_eq, ByteArray.toList_eq] at h
    exact hne (ByteArray.ext (Array.toList_inj.1 h))
  have hne1 : (s == ⟨#[]⟩) = false := by rw [beq_toListBytes, ByteArray.toList_eq ⟨#[]⟩]; exact hne3
  have hget : s.get! 0 = s[0]'h0 := by
    show s.data[0]! = s.data[0]
    rw [getElem!_pos s.data 0 h0]
  clear hne
  have hn1 : (s.extract 1 s.size).size ≤ 1000000000 := by simp; omega
  by_cases he : (s[0]'h0).toNat = 101 ∨ (s[0]'h0).toNat = 69
  · have HL : Hid (ns ++ unitL s = (ns ++ numL (s[0]'h0).toNat) ++ partsL (s.extract 1 s.size)) := by
      show ns ++ unitL s = _
      have : eB s = true := by
        unfold eB
        rw [hget]
        simp [h0]
        exact he
      unfold unitL
      rw [if_pos this, hget, List.append_assoc]
    have hlt : ((s[0]'h0).toNat : Int) < 128 := by omega
    have hnum := number_k b ns ((s[0]'h0).toNat : Int) (by omega) hlt w h ht h3 (by omega)
    have hnl := numL_len ((s[0]'h0).toNat : Int)
    have hln2 : (ns ++ numL ((s[0]'h0).toNat : Int)).length ≤ 10000000000 := by rw [List.length_append]; omega
    have hpk := fun w' hw' ht' => parts_k b (ns ++ numL ((s[0]'h0).toNat : Int)) (s.extract 1 s.size) hn1 w' hw' ht' h3 hln2
    have HPK := hid_mk hpk
    clear hpk hget hnl hln2
    rcases he with h101 | h69
    · have e1 : ((((s[0]'h0).toNat : Int)) != 101) = false := by rw [h101]; rfl
      clear h101
      go_enter Tryz.func49, Tryz.ntmps49
      go_wp2_with (go_at_call 86; fail)
      refine (hnum).mono ?_
      rintro e w1 ⟨rfl, h1, b1, k1⟩
      go_wp2_with (go_at_call 91; fail)
      refine (HPK.out w1 h1 (tab_below ht b1 h3)).mono ?_
      rintro e w2 ⟨rfl, h2, b2, k2⟩
      go_wp2
      go_end0
      exact ⟨rfl, by rw [HL.out]; exact h2, b1.trans b2, k1.trans k2⟩
    · have e1 : ((((s[0]'h0).toNat : Int)) != 101) = true := by rw [h69]; rfl
      have e2 : ((((s[0]'h0).toNat : Int)) != 69) = false := by rw [h69]; rfl
      clear h69
      go_enter Tryz.func49, Tryz.ntmps49
      go_wp2_with (go_at_call 86; fail)
      refine (hnum).mono ?_
      rintro e w1 ⟨rfl, h1, b1, k1⟩
      go_wp2_with (go_at_call 91; fail)
      refine (HPK.out w1 h1 (tab_below ht b1 h3)).mono ?_
      rintro e w2 ⟨rfl, h2, b2, k2⟩
      go_wp2
      go_end0
      exact ⟨rfl, by rw [HL.out]; exact h2, b1.trans b2, k1.trans k2⟩
  · have HL : Hid (ns ++ unitL s = ns ++ escL s) := by
      show ns ++ unitL s = _
      have : eB s = false := by
        unfold eB
        rw [hget]
        simp [h0]
        omega
      unfold unitL
      rw [if_neg (by simp [this])]
    have e1 : ((((s[0]'h0).toNat : Int)) != 101) = true := by simp; omega
    have e2 : ((((s[0]'h0).toNat : Int)) != 69) = true := by simp; omega
    have hnm := name_all b ns s hs w h ht h3 (by omega)
    clear he hget
    go_enter Tryz.func49, Tryz.ntmps49
    go_wp2_with (go_at_call 40; fail)
    refine (hnm).mono ?_
    rintro e w1 ⟨rfl, h1, b1, k1⟩
    go_wp2
    refine bodyPost_ret (results_none rfl _ _ _) rfl ?_
    exact ⟨rfl, by rw [HL.out]; exact h1, b1, k1⟩

set_option maxHeartbeats 1000000 in
set_option maxRecDepth 100000 in
theorem hash_k (b : Nat) (k : Int) (tx un : ByteArray) (wh fl : Bool) (hs : tx.size ≤ 1000000000) (w : World) (h : Wr b [] w) (ht : Tab w) (h3 : 3 < b) :
    Calls Tryz.prog 47 #[.pointer (some ⟨b, 0, none⟩), .agg #[.int .i64 k, .string tx, .string un, .bool wh, .bool fl]] w fun e w' => e = .returned (.tuple #[]) ∧ Wr b ([35] ++ (if fl then escL tx else partsL tx)) w' ∧ Below b w w' := by
  have hlt := wr_lt h
  have hal : Below w.heap.size w (w.alloc (.cells #[.int .i64 k, .string tx, .string un, .bool wh, .bool fl] 31)) := (Below.refl _ w).alloc (Nat.le_refl _) _
  have h1 := wr_below h hal (by omega)
  have hby := wr_byte_k b [] 35 (by omega) _ h1 (by simp)
  rw [List.nil_append] at hby
  have hbx := heap_alloc_new w (.cells #[.int .i64 k, .string tx, .string un, .bool wh, .bool fl] 31)
  have ht1 : Tab (w.alloc (.cells #[.int .i64 k, .string tx, .string un, .bool wh, .bool fl] 31)) := tab_below ht hal (by omega)
  have hne : w.heap.size ≠ b := by omega
  clear h h1
  go_enter Tryz.func47, Tryz.ntmps47
  go_wp2_with (go_at_call 46; fail)
  refine (hby).mono ?_
  rintro e w1 ⟨rfl, h2, b2, k2⟩
  have hb1 := k2 w.heap.size _ hbx (fun e => hne (Option.some.inj e)) (fun _ _ e => by simp at e)
  obtain ⟨c0, c1, c2, c3, c4, cf⟩ := cells5 hb1
  have ht2 := tab_below ht1 b2 h3
  have hB : Below b w w1 := (hal.mono (by omega)).trans b2
  clear cf hbx hby k2
  cases fl
  · have hp := parts_k b [35] tx hs w1 h2 ht2 h3 (by simp)
    go_wp2_with (go_at_call 91; fail)
    refine (hp).mono ?_
    rintro e w3 ⟨rfl, h4, b4, k4⟩
    go_wp2
    go_end0
    exact ⟨rfl, h4, hB.trans b4⟩
  · have hp := name_all b [35] tx hs w1 h2 ht2 h3 (by simp)
    go_wp2_with (go_at_call 40; fail)
    refine (hp).mono ?_
    rintro e w3 ⟨rfl, h4, b4, k4⟩
    go_wp2
    go_end0
    exact ⟨rfl, h4, hB.trans b4⟩

theorem escFrom_len' (s : ByteArray) : ∀ (f pos : Nat), (escFrom s f pos).length ≤ 5 * f
  | 0, _ => by simp [escFrom]
  | f + 1, pos => by
    rw [escFrom]
    split
    · have h1 := escFrom_len' s f (pos + (Utf8.decode s pos).2)
      have h2 : (escAt s pos (Utf8.decode s pos).1).length ≤ 5 := by
        unfold escAt
        split
        · have := numL_len ((Utf8.decode s pos).1 : Int); omega
        · exact partL_len _
      rw [List.length_append]
      omega
    · simp
theorem escL_len' (s : ByteArray) : (escL s).length ≤ 5 * s.size + 5 := by
  unfold escL
  split
  · have : (slashL 45).length = 2 := by decide +kernel
    omega
  · have := escFrom_len' s s.size 0
    omega
section
variable (tx un : ByteArray) (wh fl : Bool) (w : World)

set_option maxHeartbeats 1000000 in
set_option maxRecDepth 100000 in
theorem source_ident (hs : tx.size ≤ 1000000000) (ht : Tab w) (h3 : 3 < w.heap.size) :
    Calls Tryz.prog 17 #[.agg #[.int .i64 1, .string tx, .string un, .bool wh, .bool fl]] w fun e w' => e = .returned (.string (strOfNums (escL tx))) ∧ Below w.heap.size w w' := by
  have hB1 : Below w.heap.size w ((w.alloc (.cells #[.int .i64 1, .string tx, .string un, .bool wh, .bool fl] 31)).alloc (.cells #[.pointer none, .slice none 0 0] 58)) := ((Below.refl _ w).alloc (Nat.le_refl _) _).alloc (by simp) _
  have hw := wr_new (w.alloc (.cells #[.int .i64 1, .string tx, .string un, .bool wh, .bool fl] 31))
  have e9 : (w.alloc (.cells #[.int .i64 1, .string tx, .string un, .bool wh, .bool fl] 31)).heap.size = w.heap.size + 1 := by simp
  rw [e9] at hw
  have ht0 : Tab ((w.alloc (.cells #[.int .i64 1, .string tx, .string un, .bool wh, .bool fl] 31)).alloc (.cells #[.pointer none, .slice none 0 0] 58)) := tab_below ht hB1 h3
  have hn := name_all (w.heap.size + 1) [] tx hs _ hw ht0 (by omega) (by simp)
  rw [List.nil_append] at hn
  clear e9 hw
  go_enter Tryz.func17, Tryz.ntmps17
  go_wp2_with (go_at_call 40; fail)
  refine (hn).mono ?_
  rintro e w1 ⟨rfl, h2, b2, k2⟩
  go_wp2_with (go_at_call 41; fail)
  refine (wr_string (w.heap.size + 1) (escL tx) w1 h2).mono ?_
  rintro e w9 ⟨rfl, b9⟩
  go_wp2
  go_ret
  exact ⟨rfl, hB1.trans ((b2.trans b9).mono (by omega))⟩

set_option maxHeartbeats 1000000 in
set_option maxRecDepth 100000 in
theorem source_func (hs : tx.size ≤ 1000000000) (ht : Tab w) (h3 : 3 < w.heap.size) :
    Calls Tryz.prog 17 #[.agg #[.int .i64 2, .string tx, .string un, .bool wh, .bool fl]] w fun e w' => e = .returned (.string (strOfNums (escL tx ++ [40]))) ∧ Below w.heap.size w w' := by
  have hB1 : Below w.heap.size w ((w.alloc (.cells #[.int .i64 2, .string tx, .string un, .bool wh, .bool fl] 31)).alloc (.cells #[.pointer none, .slice none 0 0] 58)) := ((Below.refl _ w).alloc (Nat.le_refl _) _).alloc (by simp) _
  have hw := wr_new (w.alloc (.cells #[.int .i64 2, .string tx, .string un, .bool wh, .bool fl] 31))
  have e9 : (w.alloc (.cells #[.int .i64 2, .string tx, .string un, .bool wh, .bool fl] 31)).heap.size = w.heap.size + 1 := by simp
  rw [e9] at hw
  have ht0 : Tab ((w.alloc (.cells #[.int .i64 2, .string tx, .string un, .bool wh, .bool fl] 31)).alloc (.cells #[.pointer none, .slice none 0 0] 58)) := tab_below ht hB1 h3
  have hn := name_all (w.heap.size + 1) [] tx hs _ hw ht0 (by omega) (by simp)
  rw [List.nil_append] at hn
  have hel : (escL tx).length ≤ 10000000000 := by have := escL_len' tx; omega
  clear e9 hw
  go_enter Tryz.func17, Tryz.ntmps17
  go_wp2_with (go_at_call 40; fail)
  refine (hn).mono ?_
  rintro e w1 ⟨rfl, h1, b1, k1⟩
  go_wp2_with (go_at_call 46; fail)
  refine (wr_byte_k (w.heap.size + 1) (escL tx) 40 (by omega) w1 h1 (by omega)).mono ?_
  rintro e w2 ⟨rfl, h2, b2, k2⟩
  go_wp2_with (go_at_call 41; fail)
  refine (wr_string (w.heap.size + 1) (escL tx ++ [40]) w2 h2).mono ?_
  rintro e w9 ⟨rfl, b9⟩
  go_wp2
  go_ret
  exact ⟨rfl, hB1.trans (((b1.trans b2).trans b9).mono (by omega))⟩

set_option maxHeartbeats 1000000 in
set_option maxRecDepth 100000 in
theorem source_at (hs : tx.size ≤ 1000000000) (ht : Tab w) (h3 : 3 < w.heap.size) :
    Calls Tryz.prog 17 #[.agg #[.int .i64 3, .string tx, .string un, .bool wh, .bool fl]] w fun e w' => e = .returned (.string (strOfNums ([64] ++ escL tx))) ∧ Below w.heap.size w w' := by
  have hB1 : Below w.heap.size w ((w.alloc (.cells #[.int .i64 3, .string tx, .string un, .bool wh, .bool fl] 31)).alloc (.cells #[.pointer none, .slice none 0 0] 58)) := ((Below.refl _ w).alloc (Nat.le_refl _) _).alloc (by simp) _
  have hw := wr_new (w.alloc (.cells #[.int .i64 3, .string tx, .string un, .bool wh, .bool fl] 31))
  have e9 : (w.alloc (.cells #[.int .i64 3, .string tx, .string un, .bool wh, .bool fl] 31)).heap.size = w.heap.size + 1 := by simp
  rw [e9] at hw
  have ht0 : Tab ((w.alloc (.cells #[.int .i64 3, .string tx, .string un, .bool wh, .bool fl] 31)).alloc (.cells #[.pointer none, .slice none 0 0] 58)) := tab_below ht hB1 h3
  have hy := wr_byte_k (w.heap.size + 1) [] 64 (by omega) _ hw (by simp)
  rw [List.nil_append] at hy
  have hbx := heap_alloc_new w (.cells #[.int .i64 3, .string tx, .string un, .bool wh, .bool fl] 31)
  have hbx2 := (Below.heap_alloc (w.alloc (.cells #[.int .i64 3, .string tx, .string un, .bool wh, .bool fl] 31)) (.cells #[.pointer none, .slice none 0 0] 58) w.heap.size (by simp)).trans hbx
  clear e9 hw hbx
  go_enter Tryz.func17, Tryz.ntmps17
  go_wp2_with (go_at_call 46; fail)
  refine (hy).mono ?_
  rintro e w1 ⟨rfl, h1, b1, k1⟩
  obtain ⟨c0, c1, c2, c3, c4, cf⟩ := cells5 ((b1.block w.heap.size (by omega)).trans hbx2)
  have hn := name_all (w.heap.size + 1) [64] tx hs w1 h1 (tab_below ht0 b1 (by omega)) (by omega) (by simp)
  clear cf hbx2
  go_wp2_with (go_at_call 40; fail)
  refine (hn).mono ?_
  rintro e w2 ⟨rfl, h2, b2, k2⟩
  go_wp2_with (go_at_call 41; fail)
  refine (wr_string (w.heap.size + 1) ([64] ++ escL tx) w2 h2).mono ?_
  rintro e w9 ⟨rfl, b9⟩
  go_wp2
  go_ret
  exact ⟨rfl, hB1.trans (((b1.trans b2).trans b9).mono (by omega))⟩

set_option maxHeartbeats 1000000 in
set_option maxRecDepth 100000 in
theorem source_hash (hs : tx.size ≤ 1000000000) (ht : Tab w) (h3 : 3 < w.heap.size) :
    Calls Tryz.prog 17 #[.agg #[.int .i64 4, .string tx, .string un, .bool wh, .bool fl]] w fun e w' => e = .returned (.string (strOfNums ([35] ++ (if fl then escL tx else partsL tx)))) ∧ Below w.heap.size w w' := by
  have hB1 : Below w.heap.size w ((w.alloc (.cells #[.int .i64 4, .string tx, .string un, .bool wh, .bool fl] 31)).alloc (.cells #[.pointer none, .slice none 0 0] 58)) := ((Below.refl _ w).alloc (Nat.le_refl _) _).alloc (by simp) _
  have hw := wr_new (w.alloc (.cells #[.int .i64 4, .string tx, .string un, .bool wh, .bool fl] 31))
  have e9 : (w.alloc (.cells #[.int .i64 4, .string tx, .string un, .bool wh, .bool fl] 31)).heap.size = w.heap.size + 1 := by simp
  rw [e9] at hw
  have ht0 : Tab ((w.alloc (.cells #[.int .i64 4, .string tx, .string un, .bool wh, .bool fl] 31)).alloc (.cells #[.pointer none, .slice none 0 0] 58)) := tab_below ht hB1 h3
  have hh := hash_k (w.heap.size + 1) 4 tx un wh fl hs _ hw ht0 (by omega)
  generalize ([35] ++ (if fl then escL tx else partsL tx)) = hx at hh ⊢
  clear e9 hw
  go_enter Tryz.func17, Tryz.ntmps17
  go_wp2_with (go_at_call 47; fail)
  refine (hh).mono ?_
  rintro e w1 ⟨rfl, h2, b2⟩
  go_wp2_with (go_at_call 41; fail)
  refine (wr_string (w.heap.size + 1) (hx) w1 h2).mono ?_
  rintro e w9 ⟨rfl, b9⟩
  go_wp2
  go_ret
  exact ⟨rfl, hB1.trans ((b2.trans b9).mono (by omega))⟩

set_option maxHeartbeats 1000000 in
set_option maxRecDepth 100000 in
theorem source_string (hs : tx.size ≤ 1000000000) (ht : Tab w) (h3 : 3 < w.heap.size) :
    Calls Tryz.prog 17 #[.agg #[.int .i64 5, .string tx, .string un, .bool wh, .bool fl]] w fun e w' => e = .returned (.string (strOfNums (quoL tx))) ∧ Below w.heap.size w w' := by
  have hB1 : Below w.heap.size w ((w.alloc (.cells #[.int .i64 5, .string tx, .string un, .bool wh, .bool fl] 31)).alloc (.cells #[.pointer none, .slice none 0 0] 58)) := ((Below.refl _ w).alloc (Nat.le_refl _) _).alloc (by simp) _
  have hw := wr_new (w.alloc (.cells #[.int .i64 5, .string tx, .string un, .bool wh, .bool fl] 31))
  have e9 : (w.alloc (.cells #[.int .i64 5, .string tx, .string un, .bool wh, .bool fl] 31)).heap.size = w.heap.size + 1 := by simp
  rw [e9] at hw
  have ht0 : Tab ((w.alloc (.cells #[.int .i64 5, .string tx, .string un, .bool wh, .bool fl] 31)).alloc (.cells #[.pointer none, .slice none 0 0] 58)) := tab_below ht hB1 h3
  have hn := quoted_k (w.heap.size + 1) [] tx hs _ hw ht0 (by omega) (by simp)
  rw [List.nil_append] at hn
  clear e9 hw
  go_enter Tryz.func17, Tryz.ntmps17
  go_wp2_with (go_at_call 45; fail)
  refine (hn).mono ?_
  rintro e w1 ⟨rfl, h2, b2, k2⟩
  go_wp2_with (go_at_call 41; fail)
  refine (wr_string (w.heap.size + 1) (quoL tx) w1 h2).mono ?_
  rintro e w9 ⟨rfl, b9⟩
  go_wp2
  go_ret
  exact ⟨rfl, hB1.trans ((b2.trans b9).mono (by omega))⟩

set_option maxHeartbeats 1000000 in
set_option maxRecDepth 100000 in
theorem source_space (_hs : tx.size ≤ 1000000000) (ht : Tab w) (h3 : 3 < w.heap.size) :
    Calls Tryz.prog 17 #[.agg #[.int .i64 13, .string tx, .string un, .bool wh, .bool fl]] w fun e w' => e = .returned (.string (strOfNums ([32]))) ∧ Below w.heap.size w w' := by
  have hB1 : Below w.heap.size w ((w.alloc (.cells #[.int .i64 13, .string tx, .string un, .bool wh, .bool fl] 31)).alloc (.cells #[.pointer none, .slice none 0 0] 58)) := ((Below.refl _ w).alloc (Nat.le_refl _) _).alloc (by simp) _
  have hw := wr_new (w.alloc (.cells #[.int .i64 13, .string tx, .string un, .bool wh, .bool fl] 31))
  have e9 : (w.alloc (.cells #[.int .i64 13, .string tx, .string un, .bool wh, .bool fl] 31)).heap.size = w.heap.size + 1 := by simp
  rw [e9] at hw
  have ht0 : Tab ((w.alloc (.cells #[.int .i64 13, .string tx, .string un, .bool wh, .bool fl] 31)).alloc (.cells #[.pointer none, .slice none 0 0] 58)) := tab_below ht hB1 h3
  have hy := wr_byte_k (w.heap.size + 1) [] 32 (by omega) _ hw (by simp)
  rw [List.nil_append] at hy
  clear e9 hw ht0
  go_enter Tryz.func17, Tryz.ntmps17
  go_wp2_with (go_at_call 46; fail)
  refine (hy).mono ?_
  rintro e w1 ⟨rfl, h2, b2, k2⟩
  go_wp2_with (go_at_call 41; fail)
  refine (wr_string (w.heap.size + 1) ([32]) w1 h2).mono ?_
  rintro e w9 ⟨rfl, b9⟩
  go_wp2
  go_ret
  exact ⟨rfl, hB1.trans ((b2.trans b9).mono (by omega))⟩

set_option maxHeartbeats 1000000 in
set_option maxRecDepth 100000 in
theorem source_cdo (_hs : tx.size ≤ 1000000000) (ht : Tab w) (h3 : 3 < w.heap.size) :
    Calls Tryz.prog 17 #[.agg #[.int .i64 14, .string tx, .string un, .bool wh, .bool fl]] w fun e w' => e = .returned (.string (strOfNums ([60, 33, 45, 45]))) ∧ Below w.heap.size w w' := by
  have hB1 : Below w.heap.size w ((w.alloc (.cells #[.int .i64 14, .string tx, .string un, .bool wh, .bool fl] 31)).alloc (.cells #[.pointer none, .slice none 0 0] 58)) := ((Below.refl _ w).alloc (Nat.le_refl _) _).alloc (by simp) _
  have hw := wr_new (w.alloc (.cells #[.int .i64 14, .string tx, .string un, .bool wh, .bool fl] 31))
  have e9 : (w.alloc (.cells #[.int .i64 14, .string tx, .string un, .bool wh, .bool fl] 31)).heap.size = w.heap.size + 1 := by simp
  rw [e9] at hw
  have ht0 : Tab ((w.alloc (.cells #[.int .i64 14, .string tx, .string un, .bool wh, .bool fl] 31)).alloc (.cells #[.pointer none, .slice none 0 0] 58)) := tab_below ht hB1 h3
  have hy := wr_str_k (w.heap.size + 1) [] [60, 33, 45, 45] (by decide) (by simp) _ hw (by simp)
  rw [List.nil_append] at hy
  have es : strOfNums [60, 33, 45, 45] = ⟨#[60, 33, 45, 45]⟩ := rfl
  rw [es] at hy
  clear e9 hw ht0 es
  go_enter Tryz.func17, Tryz.ntmps17
  go_wp2_with (go_at_call 48; fail)
  refine (hy).mono ?_
  rintro e w1 ⟨⟨rn, rfl⟩, h2, b2, k2⟩
  go_wp2_with (go_at_call 41; fail)
  refine (wr_string (w.heap.size + 1) ([60, 33, 45, 45]) w1 h2).mono ?_
  rintro e w9 ⟨rfl, b9⟩
  go_wp2
  go_ret
  exact ⟨rfl, hB1.trans ((b2.trans b9).mono (by omega))⟩

set_option maxHeartbeats 1000000 in
set_option maxRecDepth 100000 in
theorem source_cdc (_hs : tx.size ≤ 1000000000) (ht : Tab w) (h3 : 3 < w.heap.size) :
    Calls Tryz.prog 17 #[.agg #[.int .i64 15, .string tx, .string un, .bool wh, .bool fl]] w fun e w' => e = .returned (.string (strOfNums ([45, 45, 62]))) ∧ Below w.heap.size w w' := by
  have hB1 : Below w.heap.size w ((w.alloc (.cells #[.int .i64 15, .string tx, .string un, .bool wh, .bool fl] 31)).alloc (.cells #[.pointer none, .slice none 0 0] 58)) := ((Below.refl _ w).alloc (Nat.le_refl _) _).alloc (by simp) _
  have hw := wr_new (w.alloc (.cells #[.int .i64 15, .string tx, .string un, .bool wh, .bool fl] 31))
  have e9 : (w.alloc (.cells #[.int .i64 15, .string tx, .string un, .bool wh, .bool fl] 31)).heap.size = w.heap.size + 1 := by simp
  rw [e9] at hw
  have ht0 : Tab ((w.alloc (.cells #[.int .i64 15, .string tx, .string un, .bool wh, .bool fl] 31)).alloc (.cells #[.pointer none, .slice none 0 0] 58)) := tab_below ht hB1 h3
  have hy := wr_str_k (w.heap.size + 1) [] [45, 45, 62] (by decide) (by simp) _ hw (by simp)
  rw [List.nil_append] at hy
  have es : strOfNums [45, 45, 62] = ⟨#[45, 45, 62]⟩ := rfl
  rw [es] at hy
  clear e9 hw ht0 es
  go_enter Tryz.func17, Tryz.ntmps17
  go_wp2_with (go_at_call 48; fail)
  refine (hy).mono ?_
  rintro e w1 ⟨⟨rn, rfl⟩, h2, b2, k2⟩
  go_wp2_with (go_at_call 41; fail)
  refine (wr_string (w.heap.size + 1) ([45, 45, 62]) w1 h2).mono ?_
  rintro e w9 ⟨rfl, b9⟩
  go_wp2
  go_ret
  exact ⟨rfl, hB1.trans ((b2.trans b9).mono (by omega))⟩

set_option maxHeartbeats 1000000 in
set_option maxRecDepth 100000 in
theorem source_num (ds : List Int) (hds : ∀ n ∈ ds, 0 ≤ n ∧ n < 256) (hd0 : ds ≠ []) (hdl : ds.length ≤ 1000000000) (ht : Tab w) (h3 : 3 < w.heap.size) :
    Calls Tryz.prog 17 #[.agg #[.int .i64 10, .string (strOfNums ds), .string un, .bool wh, .bool fl]] w fun e w' => e = .returned (.string (strOfNums (ds))) ∧ Below w.heap.size w w' := by
  have hB1 : Below w.heap.size w ((w.alloc (.cells #[.int .i64 10, .string (strOfNums ds), .string un, .bool wh, .bool fl] 31)).alloc (.cells #[.pointer none, .slice none 0 0] 58)) := ((Below.refl _ w).alloc (Nat.le_refl _) _).alloc (by simp) _
  have hw := wr_new (w.alloc (.cells #[.int .i64 10, .string (strOfNums ds), .string un, .bool wh, .bool fl] 31))
  have e9 : (w.alloc (.cells #[.int .i64 10, .string (strOfNums ds), .string un, .bool wh, .bool fl] 31)).heap.size = w.heap.size + 1 := by simp
  rw [e9] at hw
  have ht0 : Tab ((w.alloc (.cells #[.int .i64 10, .string (strOfNums ds), .string un, .bool wh, .bool fl] 31)).alloc (.cells #[.pointer none, .slice none 0 0] 58)) := tab_below ht hB1 h3
  have hy := wr_str_k (w.heap.size + 1) [] ds hds hd0 _ hw (by simp; omega)
  rw [List.nil_append] at hy
  clear e9 hw ht0
  go_enter Tryz.func17, Tryz.ntmps17
  go_wp2_with (go_at_call 48; fail)
  refine (hy).mono ?_
  rintro e w1 ⟨⟨rn, rfl⟩, h2, b2, k2⟩
  go_wp2_with (go_at_call 41; fail)
  refine (wr_string (w.heap.size + 1) (ds) w1 h2).mono ?_
  rintro e w9 ⟨rfl, b9⟩
  go_wp2
  go_ret
  exact ⟨rfl, hB1.trans ((b2.trans b9).mono (by omega))⟩

set_option maxHeartbeats 1000000 in
set_option maxRecDepth 100000 in
theorem source_pc (ds : List Int) (hds : ∀ n ∈ ds, 0 ≤ n ∧ n < 256) (hd0 : ds ≠ []) (hdl : ds.length ≤ 1000000000) (ht : Tab w) (h3 : 3 < w.heap.size) :
    Calls Tryz.prog 17 #[.agg #[.int .i64 11, .string (strOfNums ds), .string un, .bool wh, .bool fl]] w fun e w' => e = .returned (.string (strOfNums (ds ++ [37]))) ∧ Below w.heap.size w w' := by
  have hB1 : Below w.heap.size w ((w.alloc (.cells #[.int .i64 11, .string (strOfNums ds), .string un, .bool wh, .bool fl] 31)).alloc (.cells #[.pointer none, .slice none 0 0] 58)) := ((Below.refl _ w).alloc (Nat.le_refl _) _).alloc (by simp) _
  have hw := wr_new (w.alloc (.cells #[.int .i64 11, .string (strOfNums ds), .string un, .bool wh, .bool fl] 31))
  have e9 : (w.alloc (.cells #[.int .i64 11, .string (strOfNums ds), .string un, .bool wh, .bool fl] 31)).heap.size = w.heap.size + 1 := by simp
  rw [e9] at hw
  have ht0 : Tab ((w.alloc (.cells #[.int .i64 11, .string (strOfNums ds), .string un, .bool wh, .bool fl] 31)).alloc (.cells #[.pointer none, .slice none 0 0] 58)) := tab_below ht hB1 h3
  have hy := wr_str_k (w.heap.size + 1) [] ds hds hd0 _ hw (by simp; omega)
  rw [List.nil_append] at hy
  clear e9 hw ht0
  go_enter Tryz.func17, Tryz.ntmps17
  go_wp2_with (go_at_call 48; fail)
  refine (hy).mono ?_
  rintro e w1 ⟨⟨rn, rfl⟩, h1, b1, k1⟩
  go_wp2_with (go_at_call 46; fail)
  refine (wr_byte_k (w.heap.size + 1) ds 37 (by omega) w1 h1 (by omega)).mono ?_
  rintro e w2 ⟨rfl, h2, b2, k2⟩
  go_wp2_with (go_at_call 41; fail)
  refine (wr_string (w.heap.size + 1) (ds ++ [37]) w2 h2).mono ?_
  rintro e w9 ⟨rfl, b9⟩
  go_wp2
  go_ret
  exact ⟨rfl, hB1.trans (((b1.trans b2).trans b9).mono (by omega))⟩
end
def signL (k : Int) : Int := if k = 16 then 58 else if k = 17 then 59 else if k = 18 then 44 else if k = 19 then 91 else if k = 20 then 93 else if k = 21 then 40 else if k = 22 then 41 else if k = 23 then 123 else 125
theorem wr_drewN {w : World} {b : Nat} {ns : List Int} (h : Wr b ns w) (h0 : 0 < b) (n : Nat) : Wr b ns (w.drewN n) := wr_kept h (Kept.drewN 0 w n) h0
theorem below_drewN (B : Nat) (w : World) (n : Nat) : Below B w (w.drewN n) := ⟨rfl, rfl, rfl, Nat.le_refl _, fun _ _ => rfl⟩

set_option maxHeartbeats 1000000 in
theorem sign_16 (b : Nat) (w : World) (h : Wr b [] w) (h0 : 0 < b) :
    Calls Tryz.prog 50 #[.pointer (some ⟨b, 0, none⟩), .int .i64 16] w fun e w' => e = .returned (.tuple #[]) ∧ Wr b [58] w' ∧ Below b w w' := by
  have hby : ∀ m, Calls Tryz.prog 46 #[.pointer (some ⟨b, 0, none⟩), .int .u8 58] (w.drewN m) fun e w' => e = .returned .nilIface ∧ Wr b [58] w' ∧ Below b w w' := by
    intro m
    refine (wr_byte_k b [] 58 (by omega) (w.drewN m) (wr_drewN h h0 m) (by simp)).mono ?_
    rintro e w' ⟨he, h1, h2, _⟩
    exact ⟨he, h1, (below_drewN b w m).trans h2⟩
  go_enter Tryz.func50, Tryz.ntmps50
  go_wp2
  go_region_with (go_at_call 46; refine (hby _).mono ?_; rintro e w2 ⟨rfl, h2, b2⟩)
  go_wp2
  go_end0
  exact ⟨rfl, h2, b2⟩

set_option maxHeartbeats 1000000 in
theorem sign_17 (b : Nat) (w : World) (h : Wr b [] w) (h0 : 0 < b) :
    Calls Tryz.prog 50 #[.pointer (some ⟨b, 0, none⟩), .int .i64 17] w fun e w' => e = .returned (.tuple #[]) ∧ Wr b [59] w' ∧ Below b w w' := by
  have hby : ∀ m, Calls Tryz.prog 46 #[.pointer (some ⟨b, 0, none⟩), .int .u8 59] (w.drewN m) fun e w' => e = .returned .nilIface ∧ Wr b [59] w' ∧ Below b w w' := by
    intro m
    refine (wr_byte_k b [] 59 (by omega) (w.drewN m) (wr_drewN h h0 m) (by simp)).mono ?_
    rintro e w' ⟨he, h1, h2, _⟩
    exact ⟨he, h1, (below_drewN b w m).trans h2⟩
  go_enter Tryz.func50, Tryz.ntmps50
  go_wp2
  go_region_with (go_at_call 46; refine (hby _).mono ?_; rintro e w2 ⟨rfl, h2, b2⟩)
  go_wp2
  go_end0
  exact ⟨rfl, h2, b2⟩

set_option maxHeartbeats 1000000 in
theorem sign_18 (b : Nat) (w : World) (h : Wr b [] w) (h0 : 0 < b) :
    Calls Tryz.prog 50 #[.pointer (some ⟨b, 0, none⟩), .int .i64 18] w fun e w' => e = .returned (.tuple #[]) ∧ Wr b [44] w' ∧ Below b w w' := by
  have hby : ∀ m, Calls Tryz.prog 46 #[.pointer (some ⟨b, 0, none⟩), .int .u8 44] (w.drewN m) fun e w' => e = .returned .nilIface ∧ Wr b [44] w' ∧ Below b w w' := by
    intro m
    refine (wr_byte_k b [] 44 (by omega) (w.drewN m) (wr_drewN h h0 m) (by simp)).mono ?_
    rintro e w' ⟨he, h1, h2, _⟩
    exact ⟨he, h1, (below_drewN b w m).trans h2⟩
  go_enter Tryz.func50, Tryz.ntmps50
  go_wp2
  go_region_with (go_at_call 46; refine (hby _).mono ?_; rintro e w2 ⟨rfl, h2, b2⟩)
  go_wp2
  go_end0
  exact ⟨rfl, h2, b2⟩

set_option maxHeartbeats 1000000 in
theorem sign_19 (b : Nat) (w : World) (h : Wr b [] w) (h0 : 0 < b) :
    Calls Tryz.prog 50 #[.pointer (some ⟨b, 0, none⟩), .int .i64 19] w fun e w' => e = .returned (.tuple #[]) ∧ Wr b [91] w' ∧ Below b w w' := by
  have hby : ∀ m, Calls Tryz.prog 46 #[.pointer (some ⟨b, 0, none⟩), .int .u8 91] (w.drewN m) fun e w' => e = .returned .nilIface ∧ Wr b [91] w' ∧ Below b w w' := by
    intro m
    refine (wr_byte_k b [] 91 (by omega) (w.drewN m) (wr_drewN h h0 m) (by simp)).mono ?_
    rintro e w' ⟨he, h1, h2, _⟩
    exact ⟨he, h1, (below_drewN b w m).trans h2⟩
  go_enter Tryz.func50, Tryz.ntmps50
  go_wp2
  go_region_with (go_at_call 46; refine (hby _).mono ?_; rintro e w2 ⟨rfl, h2, b2⟩)
  go_wp2
  go_end0
  exact ⟨rfl, h2, b2⟩

set_option maxHeartbeats 1000000 in
theorem sign_20 (b : Nat) (w : World) (h : Wr b [] w) (h0 : 0 < b) :
    Calls Tryz.prog 50 #[.pointer (some ⟨b, 0, none⟩), .int .i64 20] w fun e w' => e = .returned (.tuple #[]) ∧ Wr b [93] w' ∧ Below b w w' := by
  have hby : ∀ m, Calls Tryz.prog 46 #[.pointer (some ⟨b, 0, none⟩), .int .u8 93] (w.drewN m) fun e w' => e = .returned .nilIface ∧ Wr b [93] w' ∧ Below b w w' := by
    intro m
    refine (wr_byte_k b [] 93 (by omega) (w.drewN m) (wr_drewN h h0 m) (by simp)).mono ?_
    rintro e w' ⟨he, h1, h2, _⟩
    exact ⟨he, h1, (below_drewN b w m).trans h2⟩
  go_enter Tryz.func50, Tryz.ntmps50
  go_wp2
  go_region_with (go_at_call 46; refine (hby _).mono ?_; rintro e w2 ⟨rfl, h2, b2⟩)
  go_wp2
  go_end0
  exact ⟨rfl, h2, b2⟩

set_option maxHeartbeats 1000000 in
theorem sign_21 (b : Nat) (w : World) (h : Wr b [] w) (h0 : 0 < b) :
    Calls Tryz.prog 50 #[.pointer (some ⟨b, 0, none⟩), .int .i64 21] w fun e w' => e = .returned (.tuple #[]) ∧ Wr b [40] w' ∧ Below b w w' := by
  have hby : ∀ m, Calls Tryz.prog 46 #[.pointer (some ⟨b, 0, none⟩), .int .u8 40] (w.drewN m) fun e w' => e = .returned .nilIface ∧ Wr b [40] w' ∧ Below b w w' := by
    intro m
    refine (wr_byte_k b [] 40 (by omega) (w.drewN m) (wr_drewN h h0 m) (by simp)).mono ?_
    rintro e w' ⟨he, h1, h2, _⟩
    exact ⟨he, h1, (below_drewN b w m).trans h2⟩
  go_enter Tryz.func50, Tryz.ntmps50
  go_wp2
  go_region_with (go_at_call 46; refine (hby _).mono ?_; rintro e w2 ⟨rfl, h2, b2⟩)
  go_wp2
  go_end0
  exact ⟨rfl, h2, b2⟩

set_option maxHeartbeats 1000000 in
theorem sign_22 (b : Nat) (w : World) (h : Wr b [] w) (h0 : 0 < b) :
    Calls Tryz.prog 50 #[.pointer (some ⟨b, 0, none⟩), .int .i64 22] w fun e w' => e = .returned (.tuple #[]) ∧ Wr b [41] w' ∧ Below b w w' := by
  have hby : ∀ m, Calls Tryz.prog 46 #[.pointer (some ⟨b, 0, none⟩), .int .u8 41] (w.drewN m) fun e w' => e = .returned .nilIface ∧ Wr b [41] w' ∧ Below b w w' := by
    intro m
    refine (wr_byte_k b [] 41 (by omega) (w.drewN m) (wr_drewN h h0 m) (by simp)).mono ?_
    rintro e w' ⟨he, h1, h2, _⟩
    exact ⟨he, h1, (below_drewN b w m).trans h2⟩
  go_enter Tryz.func50, Tryz.ntmps50
  go_wp2
  go_region_with (go_at_call 46; refine (hby _).mono ?_; rintro e w2 ⟨rfl, h2, b2⟩)
  go_wp2
  go_end0
  exact ⟨rfl, h2, b2⟩

set_option maxHeartbeats 1000000 in
theorem sign_23 (b : Nat) (w : World) (h : Wr b [] w) (h0 : 0 < b) :
    Calls Tryz.prog 50 #[.pointer (some ⟨b, 0, none⟩), .int .i64 23] w fun e w' => e = .returned (.tuple #[]) ∧ Wr b [123] w' ∧ Below b w w' := by
  have hby : ∀ m, Calls Tryz.prog 46 #[.pointer (some ⟨b, 0, none⟩), .int .u8 123] (w.drewN m) fun e w' => e = .returned .nilIface ∧ Wr b [123] w' ∧ Below b w w' := by
    intro m
    refine (wr_byte_k b [] 123 (by omega) (w.drewN m) (wr_drewN h h0 m) (by simp)).mono ?_
    rintro e w' ⟨he, h1, h2, _⟩
    exact ⟨he, h1, (below_drewN b w m).trans h2⟩
  go_enter Tryz.func50, Tryz.ntmps50
  go_wp2
  go_region_with (go_at_call 46; refine (hby _).mono ?_; rintro e w2 ⟨rfl, h2, b2⟩)
  go_wp2
  go_end0
  exact ⟨rfl, h2, b2⟩

set_option maxHeartbeats 1000000 in
theorem sign_24 (b : Nat) (w : World) (h : Wr b [] w) (h0 : 0 < b) :
    Calls Tryz.prog 50 #[.pointer (some ⟨b, 0, none⟩), .int .i64 24] w fun e w' => e = .returned (.tuple #[]) ∧ Wr b [125] w' ∧ Below b w w' := by
  have hby : ∀ m, Calls Tryz.prog 46 #[.pointer (some ⟨b, 0, none⟩), .int .u8 125] (w.drewN m) fun e w' => e = .returned .nilIface ∧ Wr b [125] w' ∧ Below b w w' := by
    intro m
    refine (wr_byte_k b [] 125 (by omega) (w.drewN m) (wr_drewN h h0 m) (by simp)).mono ?_
    rintro e w' ⟨he, h1, h2, _⟩
    exact ⟨he, h1, (below_drewN b w m).trans h2⟩
  go_enter Tryz.func50, Tryz.ntmps50
  go_wp2
  go_region_with (go_at_call 46; refine (hby _).mono ?_; rintro e w2 ⟨rfl, h2, b2⟩)
  go_wp2
  go_end0
  exact ⟨rfl, h2, b2⟩


set_option maxHeartbeats 1000000 in
set_option maxRecDepth 100000 in
theorem source_dim2 (ds : List Int) (hds : ∀ n ∈ ds, 0 ≤ n ∧ n < 256) (hd0 : ds ≠ []) (hdl : ds.length ≤ 1000000000) (u : ByteArray) (hu : u.size ≤ 1000000000) (hu0 : 0 < u.size) (wh fl : Bool) (w : World) (ht : Tab w) (h3 : 3 < w.heap.size) :
    Calls Tryz.prog 17 #[.agg #[.int .i64 12, .string (strOfNums ds), .string u, .bool wh, .bool fl]] w fun e w' => e = .returned (.string (strOfNums (ds ++ unitL u))) ∧ Below w.heap.size w w' := by
  have hB1 : Below w.heap.size w ((w.alloc (.cells #[.int .i64 12, .string (strOfNums ds), .string u, .bool wh, .bool fl] 31)).alloc (.cells #[.pointer none, .slice none 0 0] 58)) := ((Below.refl _ w).alloc (Nat.le_refl _) _).alloc (by simp) _
  have hw := wr_new (w.alloc (.cells #[.int .i64 12, .string (strOfNums ds), .string u, .bool wh, .bool fl] 31))
  have e9 : (w.alloc (.cells #[.int .i64 12, .string (strOfNums ds), .string u, .bool wh, .bool fl] 31)).heap.size = w.heap.size + 1 := by simp
  rw [e9] at hw
  have ht0 : Tab ((w.alloc (.cells #[.int .i64 12, .string (strOfNums ds), .string u, .bool wh, .bool fl] 31)).alloc (.cells #[.pointer none, .slice none 0 0] 58)) := tab_below ht hB1 h3
  have hstr := wr_str_k (w.heap.size + 1) [] ds hds hd0 _ hw (by simp; omega)
  have hc2 : ((w.alloc (.cells #[.int .i64 12, .string (strOfNums ds), .string u, .bool wh, .bool fl] 31)).alloc (.cells #[.pointer none, .slice none 0 0] 58)).cell? ⟨w.heap.size, 2, none⟩ = some (.string u) := by
    have h := heap_alloc_new w (.cells #[.int .i64 12, .string (strOfNums ds), .string u, .bool wh, .bool fl] 31)
    have h2 := (Below.heap_alloc (w.alloc (.cells #[.int .i64 12, .string (strOfNums ds), .string u, .bool wh, .bool fl] 31)) (.cells #[.pointer none, .slice none 0 0] 58) w.heap.size (by simp)).trans h
    simp only [World.cell?, h2]
    rfl
  rw [List.nil_append] at hstr
  clear e9 hw
  go_enter Tryz.func17, Tryz.ntmps17
  go_wp2_with (go_at_call 48; fail)
  refine (hstr).mono ?_
  rintro e w1 ⟨⟨rn, rfl⟩, h1, b1, k1⟩
  have c2 := (b1.cell (p := ⟨w.heap.size, 2, none⟩) (by simp)).trans hc2
  have ht1 := tab_below ht0 b1 (by omega)
  have hun := unit_k (w.heap.size + 1) ds u hu hu0 w1 h1 ht1 (by omega) (by omega)
  clear hc2 hstr ht0
  go_wp2_with (go_at_call 49; fail)
  refine (hun).mono ?_
  rintro e w2 ⟨rfl, h2, b2, k2⟩
  go_wp2_with (go_at_call 41; fail)
  refine (wr_string (w.heap.size + 1) (ds ++ unitL u) w2 h2).mono ?_
  rintro e w3 ⟨rfl, b3⟩
  go_wp2
  go_ret
  exact ⟨rfl, hB1.trans ((b1.trans (b2.trans b3)).mono (by omega))⟩

section
variable (tx un : ByteArray) (wh fl : Bool) (w : World)

set_option maxHeartbeats 1000000 in
set_option maxRecDepth 100000 in
theorem source_16 (_hs : tx.size ≤ 1000000000) (ht : Tab w) (h3 : 3 < w.heap.size) :
    Calls Tryz.prog 17 #[.agg #[.int .i64 16, .string tx, .string un, .bool wh, .bool fl]] w fun e w' => e = .returned (.string (strOfNums ([58]))) ∧ Below w.heap.size w w' := by
  have hB1 : Below w.heap.size w ((w.alloc (.cells #[.int .i64 16, .string tx, .string un, .bool wh, .bool fl] 31)).alloc (.cells #[.pointer none, .slice none 0 0] 58)) := ((Below.refl _ w).alloc (Nat.le_refl _) _).alloc (by simp) _
  have hw := wr_new (w.alloc (.cells #[.int .i64 16, .string tx, .string un, .bool wh, .bool fl] 31))
  have e9 : (w.alloc (.cells #[.int .i64 16, .string tx, .string un, .bool wh, .bool fl] 31)).heap.size = w.heap.size + 1 := by simp
  rw [e9] at hw
  have ht0 : Tab ((w.alloc (.cells #[.int .i64 16, .string tx, .string un, .bool wh, .bool fl] 31)).alloc (.cells #[.pointer none, .slice none 0 0] 58)) := tab_below ht hB1 h3
  have hy := sign_16 (w.heap.size + 1) _ hw (by omega)
  clear e9 hw ht0
  go_enter Tryz.func17, Tryz.ntmps17
  go_wp2_with (go_at_call 50; fail)
  refine (hy).mono ?_
  rintro e w1 ⟨rfl, h2, b2⟩
  go_wp2_with (go_at_call 41; fail)
  refine (wr_string (w.heap.size + 1) ([58]) w1 h2).mono ?_
  rintro e w9 ⟨rfl, b9⟩
  go_wp2
  go_ret
  exact ⟨rfl, hB1.trans ((b2.trans b9).mono (by omega))⟩


set_option maxHeartbeats 1000000 in
set_option maxRecDepth 100000 in
theorem source_17 (_hs : tx.size ≤ 1000000000) (ht : Tab w) (h3 : 3 < w.heap.size) :
    Calls Tryz.prog 17 #[.agg #[.int .i64 17, .string tx, .string un, .bool wh, .bool fl]] w fun e w' => e = .returned (.string (strOfNums ([59]))) ∧ Below w.heap.size w w' := by
  have hB1 : Below w.heap.size w ((w.alloc (.cells #[.int .i64 17, .string tx, .string un, .bool wh, .bool fl] 31)).alloc (.cells #[.pointer none, .slice none 0 0] 58)) := ((Below.refl _ w).alloc (Nat.le_refl _) _).alloc (by simp) _
  have hw := wr_new (w.alloc (.cells #[.int .i64 17, .string tx, .string un, .bool wh, .bool fl] 31))
  have e9 : (w.alloc (.cells #[.int .i64 17, .string tx, .string un, .bool wh, .bool fl] 31)).heap.size = w.heap.size + 1 := by simp
  rw [e9] at hw
  have ht0 : Tab ((w.alloc (.cells #[.int .i64 17, .string tx, .string un, .bool wh, .bool fl] 31)).alloc (.cells #[.pointer none, .slice none 0 0] 58)) := tab_below ht hB1 h3
  have hy := sign_17 (w.heap.size + 1) _ hw (by omega)
  clear e9 hw ht0
  go_enter Tryz.func17, Tryz.ntmps17
  go_wp2_with (go_at_call 50; fail)
  refine (hy).mono ?_
  rintro e w1 ⟨rfl, h2, b2⟩
  go_wp2_with (go_at_call 41; fail)
  refine (wr_string (w.heap.size + 1) ([59]) w1 h2).mono ?_
  rintro e w9 ⟨rfl, b9⟩
  go_wp2
  go_ret
  exact ⟨rfl, hB1.trans ((b2.trans b9).mono (by omega))⟩


set_option maxHeartbeats 1000000 in
set_option maxRecDepth 100000 in
theorem source_18 (_hs : tx.size ≤ 1000000000) (ht : Tab w) (h3 : 3 < w.heap.size) :
    Calls Tryz.prog 17 #[.agg #[.int .i64 18, .string tx, .string un, .bool wh, .bool fl]] w fun e w' => e = .returned (.string (strOfNums ([44]))) ∧ Below w.heap.size w w' := by
  have hB1 : Below w.heap.size w ((w.alloc (.cells #[.int .i64 18, .string tx, .string un, .bool wh, .bool fl] 31)).alloc (.cells #[.pointer none, .slice none 0 0] 58)) := ((Below.refl _ w).alloc (Nat.le_refl _) _).alloc (by simp) _
  have hw := wr_new (w.alloc (.cells #[.int .i64 18, .string tx, .string un, .bool wh, .bool fl] 31))
  have e9 : (w.alloc (.cells #[.int .i64 18, .string tx, .string un, .bool wh, .bool fl] 31)).heap.size = w.heap.size + 1 := by simp
  rw [e9] at hw
  have ht0 : Tab ((w.alloc (.cells #[.int .i64 18, .string tx, .string un, .bool wh, .bool fl] 31)).alloc (.cells #[.pointer none, .slice none 0 0] 58)) := tab_below ht hB1 h3
  have hy := sign_18 (w.heap.size + 1) _ hw (by omega)
  clear e9 hw ht0
  go_enter Tryz.func17, Tryz.ntmps17
  go_wp2_with (go_at_call 50; fail)
  refine (hy).mono ?_
  rintro e w1 ⟨rfl, h2, b2⟩
  go_wp2_with (go_at_call 41; fail)
  refine (wr_string (w.heap.size + 1) ([44]) w1 h2).mono ?_
  rintro e w9 ⟨rfl, b9⟩
  go_wp2
  go_ret
  exact ⟨rfl, hB1.trans ((b2.trans b9).mono (by omega))⟩


set_option maxHeartbeats 1000000 in
set_option maxRecDepth 100000 in
theorem source_19 (_hs : tx.size ≤ 1000000000) (ht : Tab w) (h3 : 3 < w.heap.size) :
    Calls Tryz.prog 17 #[.agg #[.int .i64 19, .string tx, .string un, .bool wh, .bool fl]] w fun e w' => e = .returned (.string (strOfNums ([91]))) ∧ Below w.heap.size w w' := by
  have hB1 : Below w.heap.size w ((w.alloc (.cells #[.int .i64 19, .string tx, .string un, .bool wh, .bool fl] 31)).alloc (.cells #[.pointer none, .slice none 0 0] 58)) := ((Below.refl _ w).alloc (Nat.le_refl _) _).alloc (by simp) _
  have hw := wr_new (w.alloc (.cells #[.int .i64 19, .string tx, .string un, .bool wh, .bool fl] 31))
  have e9 : (w.alloc (.cells #[.int .i64 19, .string tx, .string un, .bool wh, .bool fl] 31)).heap.size = w.heap.size + 1 := by simp
  rw [e9] at hw
  have ht0 : Tab ((w.alloc (.cells #[.int .i64 19, .string tx, .string un, .bool wh, .bool fl] 31)).alloc (.cells #[.pointer none, .slice none 0 0] 58)) := tab_below ht hB1 h3
  have hy := sign_19 (w.heap.size + 1) _ hw (by omega)
  clear e9 hw ht0
  go_enter Tryz.func17, Tryz.ntmps17
  go_wp2_with (go_at_call 50; fail)
  refine (hy).mono ?_
  rintro e w1 ⟨rfl, h2, b2⟩
  go_wp2_with (go_at_call 41; fail)
  refine (wr_string (w.heap.size + 1) ([91]) w1 h2).mono ?_
  rintro e w9 ⟨rfl, b9⟩
  go_wp2
  go_ret
  exact ⟨rfl, hB1.trans ((b2.trans b9).mono (by omega))⟩


set_option maxHeartbeats 1000000 in
set_option maxRecDepth 100000 in
theorem source_20 (_hs : tx.size ≤ 1000000000) (ht : Tab w) (h3 : 3 < w.heap.size) :
    Calls Tryz.prog 17 #[.agg #[.int .i64 20, .string tx, .string un, .bool wh, .bool fl]] w fun e w' => e = .returned (.string (strOfNums ([93]))) ∧ Below w.heap.size w w' := by
  have hB1 : Below w.heap.size w ((w.alloc (.cells #[.int .i64 20, .string tx, .string un, .bool wh, .bool fl] 31)).alloc (.cells #[.pointer none, .slice none 0 0] 58)) := ((Below.refl _ w).alloc (Nat.le_refl _) _).alloc (by simp) _
  have hw := wr_new (w.alloc (.cells #[.int .i64 20, .string tx, .string un, .bool wh, .bool fl] 31))
  have e9 : (w.alloc (.cells #[.int .i64 20, .string tx, .string un, .bool wh, .bool fl] 31)).heap.size = w.heap.size + 1 := by simp
  rw [e9] at hw
  have ht0 : Tab ((w.alloc (.cells #[.int .i64 20, .string tx, .string un, .bool wh, .bool fl] 31)).alloc (.cells #[.pointer none, .slice none 0 0] 58)) := tab_below ht hB1 h3
  have hy := sign_20 (w.heap.size + 1) _ hw (by omega)
  clear e9 hw ht0
  go_enter Tryz.func17, Tryz.ntmps17
  go_wp2_with (go_at_call 50; fail)
  refine (hy).mono ?_
  rintro e w1 ⟨rfl, h2, b2⟩
  go_wp2_with (go_at_call 41; fail)
  refine (wr_string (w.heap.size + 1) ([93]) w1 h2).mono ?_
  rintro e w9 ⟨rfl, b9⟩
  go_wp2
  go_ret
  exact ⟨rfl, hB1.trans ((b2.trans b9).mono (by omega))⟩


set_option maxHeartbeats 1000000 in
set_option maxRecDepth 100000 in
theorem source_21 (_hs : tx.size ≤ 1000000000) (ht : Tab w) (h3 : 3 < w.heap.size) :
    Calls Tryz.prog 17 #[.agg #[.int .i64 21, .string tx, .string un, .bool wh, .bool fl]] w fun e w' => e = .returned (.string (strOfNums ([40]))) ∧ Below w.heap.size w w' := by
  have hB1 : Below w.heap.size w ((w.alloc (.cells #[.int .i64 21, .string tx, .string un, .bool wh, .bool fl] 31)).alloc (.cells #[.pointer none, .slice none 0 0] 58)) := ((Below.refl _ w).alloc (Nat.le_refl _) _).alloc (by simp) _
  have hw := wr_new (w.alloc (.cells #[.int .i64 21, .string tx, .string un, .bool wh, .bool fl] 31))
  have e9 : (w.alloc (.cells #[.int .i64 21, .string tx, .string un, .bool wh, .bool fl] 31)).heap.size = w.heap.size + 1 := by simp
  rw [e9] at hw
  have ht0 : Tab ((w.alloc (.cells #[.int .i64 21, .string tx, .string un, .bool wh, .bool fl] 31)).alloc (.cells #[.pointer none, .slice none 0 0] 58)) := tab_below ht hB1 h3
  have hy := sign_21 (w.heap.size + 1) _ hw (by omega)
  clear e9 hw ht0
  go_enter Tryz.func17, Tryz.ntmps17
  go_wp2_with (go_at_call 50; fail)
  refine (hy).mono ?_
  rintro e w1 ⟨rfl, h2, b2⟩
  go_wp2_with (go_at_call 41; fail)
  refine (wr_string (w.heap.size + 1) ([40]) w1 h2).mono ?_
  rintro e w9 ⟨rfl, b9⟩
  go_wp2
  go_ret
  exact ⟨rfl, hB1.trans ((b2.trans b9).mono (by omega))⟩


set_option maxHeartbeats 1000000 in
set_option maxRecDepth 100000 in
theorem source_22 (_hs : tx.size ≤ 1000000000) (ht : Tab w) (h3 : 3 < w.heap.size) :
    Calls Tryz.prog 17 #[.agg #[.int .i64 22, .string tx, .string un, .bool wh, .bool fl]] w fun e w' => e = .returned (.string (strOfNums ([41]))) ∧ Below w.heap.size w w' := by
  have hB1 : Below w.heap.size w ((w.alloc (.cells #[.int .i64 22, .string tx, .string un, .bool wh, .bool fl] 31)).alloc (.cells #[.pointer none, .slice none 0 0] 58)) := ((Below.refl _ w).alloc (Nat.le_refl _) _).alloc (by simp) _
  have hw := wr_new (w.alloc (.cells #[.int .i64 22, .string tx, .string un, .bool wh, .bool fl] 31))
  have e9 : (w.alloc (.cells #[.int .i64 22, .string tx, .string un, .bool wh, .bool fl] 31)).heap.size = w.heap.size + 1 := by simp
  rw [e9] at hw
  have ht0 : Tab ((w.alloc (.cells #[.int .i64 22, .string tx, .string un, .bool wh, .bool fl] 31)).alloc (.cells #[.pointer none, .slice none 0 0] 58)) := tab_below ht hB1 h3
  have hy := sign_22 (w.heap.size + 1) _ hw (by omega)
  clear e9 hw ht0
  go_enter Tryz.func17, Tryz.ntmps17
  go_wp2_with (go_at_call 50; fail)
  refine (hy).mono ?_
  rintro e w1 ⟨rfl, h2, b2⟩
  go_wp2_with (go_at_call 41; fail)
  refine (wr_string (w.heap.size + 1) ([41]) w1 h2).mono ?_
  rintro e w9 ⟨rfl, b9⟩
  go_wp2
  go_ret
  exact ⟨rfl, hB1.trans ((b2.trans b9).mono (by omega))⟩


set_option maxHeartbeats 1000000 in
set_option maxRecDepth 100000 in
theorem source_23 (_hs : tx.size ≤ 1000000000) (ht : Tab w) (h3 : 3 < w.heap.size) :
    Calls Tryz.prog 17 #[.agg #[.int .i64 23, .string tx, .string un, .bool wh, .bool fl]] w fun e w' => e = .returned (.string (strOfNums ([123]))) ∧ Below w.heap.size w w' := by
  have hB1 : Below w.heap.size w ((w.alloc (.cells #[.int .i64 23, .string tx, .string un, .bool wh, .bool fl] 31)).alloc (.cells #[.pointer none, .slice none 0 0] 58)) := ((Below.refl _ w).alloc (Nat.le_refl _) _).alloc (by simp) _
  have hw := wr_new (w.alloc (.cells #[.int .i64 23, .string tx, .string un, .bool wh, .bool fl] 31))
  have e9 : (w.alloc (.cells #[.int .i64 23, .string tx, .string un, .bool wh, .bool fl] 31)).heap.size = w.heap.size + 1 := by simp
  rw [e9] at hw
  have ht0 : Tab ((w.alloc (.cells #[.int .i64 23, .string tx, .string un, .bool wh, .bool fl] 31)).alloc (.cells #[.pointer none, .slice none 0 0] 58)) := tab_below ht hB1 h3
  have hy := sign_23 (w.heap.size + 1) _ hw (by omega)
  clear e9 hw ht0
  go_enter Tryz.func17, Tryz.ntmps17
  go_wp2_with (go_at_call 50; fail)
  refine (hy).mono ?_
  rintro e w1 ⟨rfl, h2, b2⟩
  go_wp2_with (go_at_call 41; fail)
  refine (wr_string (w.heap.size + 1) ([123]) w1 h2).mono ?_
  rintro e w9 ⟨rfl, b9⟩
  go_wp2
  go_ret
  exact ⟨rfl, hB1.trans ((b2.trans b9).mono (by omega))⟩


set_option maxHeartbeats 1000000 in
set_option maxRecDepth 100000 in
theorem source_24 (_hs : tx.size ≤ 1000000000) (ht : Tab w) (h3 : 3 < w.heap.size) :
    Calls Tryz.prog 17 #[.agg #[.int .i64 24, .string tx, .string un, .bool wh, .bool fl]] w fun e w' => e = .returned (.string (strOfNums ([125]))) ∧ Below w.heap.size w w' := by
  have hB1 : Below w.heap.size w ((w.alloc (.cells #[.int .i64 24, .string tx, .string un, .bool wh, .bool fl] 31)).alloc (.cells #[.pointer none, .slice none 0 0] 58)) := ((Below.refl _ w).alloc (Nat.le_refl _) _).alloc (by simp) _
  have hw := wr_new (w.alloc (.cells #[.int .i64 24, .string tx, .string un, .bool wh, .bool fl] 31))
  have e9 : (w.alloc (.cells #[.int .i64 24, .string tx, .string un, .bool wh, .bool fl] 31)).heap.size = w.heap.size + 1 := by simp
  rw [e9] at hw
  have ht0 : Tab ((w.alloc (.cells #[.int .i64 24, .string tx, .string un, .bool wh, .bool fl] 31)).alloc (.cells #[.pointer none, .slice none 0 0] 58)) := tab_below ht hB1 h3
  have hy := sign_24 (w.heap.size + 1) _ hw (by omega)
  clear e9 hw ht0
  go_enter Tryz.func17, Tryz.ntmps17
  go_wp2_with (go_at_call 50; fail)
  refine (hy).mono ?_
  rintro e w1 ⟨rfl, h2, b2⟩
  go_wp2_with (go_at_call 41; fail)
  refine (wr_string (w.heap.size + 1) ([125]) w1 h2).mono ?_
  rintro e w9 ⟨rfl, b9⟩
  go_wp2
  go_ret
  exact ⟨rfl, hB1.trans ((b2.trans b9).mono (by omega))⟩


end

end Go.Proofs.YtbfgnfcecfjlnaaGreatDoor
