/- What the writer writes of a text as a name: token.Escape. What token.Escape gives. -/
import Derived.Test.YtbfgnfcecfjlnaaGreatDoorParts
namespace Go.Proofs.YtbfgnfcecfjlnaaGreatDoor
open Go.RowKit
set_option maxRecDepth 100000

def escAt (s : ByteArray) (pos : Nat) (c : Int) : List Int := if digitZ c && (pos == 0 || (pos == 1 && s.get! 0 == 45)) then numL c else partL c
def escFrom (s : ByteArray) : Nat → Nat → List Int
  | 0, _ => []
  | f + 1, pos => if pos < s.size then escAt s pos (Utf8.decode s pos).1 ++ escFrom s f (pos + (Utf8.decode s pos).2) else []
def escL (s : ByteArray) : List Int := if s = ⟨#[45]⟩ then slashL 45 else escFrom s s.size 0
theorem escFrom_end (s : ByteArray) (f pos : Nat) (h : ¬ pos < s.size) : escFrom s f pos = [] := by
  cases f with
  | zero => rfl
  | succ f => rw [escFrom, if_neg h]

theorem wr_iter {w : World} {b k : Nat} {ns : List Int} {s : ByteArray} {pos : Nat} (h : Wr b ns w) (hk : w.heap[k]? = some (.stringIter s pos)) (pos' : Nat) : Wr b ns (w.iterAt k s pos') := by
  obtain ⟨hB, hby, hem⟩ := h
  have aux : ∀ p, Lib.BuilderAt 58 5 b b p (ns.map (Value.int .u8)) w → Lib.BuilderAt 58 5 b b p (ns.map (Value.int .u8)) (w.iterAt k s pos') := by
    intro p hp
    obtain ⟨h1, v, hbk, hown, hne⟩ := hp
    have hkb : b ≠ k := by intro e; rw [e, hk] at hbk; cases hbk
    refine ⟨h1, v, (Lib.iterAt_other w k b s pos' hkb).trans hbk, ⟨hown.1, ?_⟩, hne⟩
    rcases hown.2 with hn | ⟨g, cap, cur, hv, hbg, hg, rest⟩
    · exact .inl hn
    · have hkg : g ≠ k := by intro e; rw [e, hk] at hg; cases hg
      exact .inr ⟨g, cap, cur, hv, hbg, (Lib.iterAt_other w k g s pos' hkg).trans hg, rest⟩
  refine ⟨hB.elim (fun x => .inl (aux _ x)) (fun x => .inr (aux _ x)), hby, fun h0 => ?_⟩
  obtain ⟨p, hp⟩ := hem h0
  have hkb : b ≠ k := by intro e; rw [e, hk] at hp; cases hp
  exact ⟨p, (Lib.iterAt_other w k b s pos' hkb).trans hp⟩
theorem numL_len (c : Int) : (numL c).length ≤ 4 := by
  unfold numL
  have := (hexL_len c.toNat).2
  simp only [List.length_append, List.length_cons, List.length_nil]
  omega
theorem partL_len (c : Int) : (partL c).length ≤ 5 := by
  have h1 := numL_len c
  have h2 := (Lib.encodeRuneZ_length c).2
  have h3 := (Lib.encodeRuneZ_length 65533).2
  unfold partL
  split
  · unfold unseenL
    split
    · omega
    · omega
  · split
    · omega
    · unfold slashL
      simp only [List.length_append, List.length_cons, List.length_nil]
      omega

def EscGo (b : Nat) (ns : List Int) (s : ByteArray) (w wr : World) : Prop :=
  ∃ (pos fuel : Nat) (ns' : List Int), wr.heap[w.heap.size]? = some (.stringIter s pos) ∧ Wr b ns' wr ∧ Below b w wr ∧ Lib.OthersKept 5 (some b) w wr ∧ ns' ++ escFrom s fuel pos = ns ++ escFrom s s.size 0 ∧ s.size ≤ pos + fuel ∧ ns'.length ≤ ns.length + 5 * pos

set_option maxHeartbeats 4000000 in
set_option maxRecDepth 100000 in
theorem name_k (b : Nat) (ns : List Int) (s : ByteArray) (hs : s.size ≤ 1000000000) (hne : s ≠ ⟨#[45]⟩) (w : World) (h : Wr b ns w) (ht : Tab w) (h3 : 3 < b) (hlen : ns.length ≤ 10000000000) :
    Calls Tryz.prog 40 #[.pointer (some ⟨b, 0, none⟩), .string s] w fun e w' => e = .returned (.tuple #[]) ∧ Wr b (ns ++ escFrom s s.size 0) w' ∧ Below b w w' ∧ Lib.OthersKept 5 (some b) w w' := by
  have hne3 : (s.toList == [45]) = false := by
    rw [Bool.eq_false_iff]
    intro h
    rw [beq_iff_eq, ByteArray.toList_eq] at h
    exact hne (ByteArray.ext (Array.toList_inj.1 h))
  have hne1 : (s == ⟨#[45]⟩) = false := by rw [beq_toListBytes, ByteArray.toList_eq ⟨#[45]⟩]; exact hne3
  clear hne
  have hltb := wr_lt h
  go_enter Tryz.func40, Tryz.ntmps40
  go_wp2
  go_loopw [] (fun wr => EscGo b ns s w wr) (fun wr => s.size - wr.iterPos w.heap.size)
  case atStart =>
    have hal : Below w.heap.size w (w.iter s 0) := Below.iter (Below.refl _ w) (Nat.le_refl _) s 0
    exact ⟨0, s.size, ns, World.iter_heap w s 0, wr_below h hal (by omega), hal.mono (by omega), kept_below hal, rfl, by omega, by omega⟩
  case round =>
    obtain ⟨pos, fuel, ns', hit, hw, hbw, hok, heq, hfu, hln⟩ := hrel
    have HQ : Hid (ns ++ escFrom s s.size 0 = ns' ++ escFrom s fuel pos) := heq.symm
    clear heq h
    by_cases hp : pos < s.size
    · have hnx : ∀ ty, (Instr.next (.pointer (some ⟨w.heap.size, 0, none⟩)) true ty).run Tryz.prog wr = _ := fun ty => Lib.run_next_any_at wr w.heap.size s pos ty hit hp
      have hwd := Lib.decode_width_pos s pos hp
      have hch := dec_char s pos
      obtain ⟨f, rfl⟩ : ∃ f, fuel = f + 1 := ⟨fuel - 1, by omega⟩
      have HA : Hid (escFrom s (f + 1) pos = escAt s pos (Utf8.decode s pos).1 ++ escFrom s f (pos + (Utf8.decode s pos).2)) := by show _ = _; rw [escFrom, if_pos hp]
      have hit3 := Lib.iterAt_heap wr w.heap.size s pos (pos + (Utf8.decode s pos).2) hit
      have hbw3 := Lib.below_iterAt hbw (k := w.heap.size) (by omega) s (pos + (Utf8.decode s pos).2)
      have hw3 := wr_iter hw hit (pos + (Utf8.decode s pos).2)
      have hok3 : Lib.OthersKept 5 (some b) w (wr.iterAt w.heap.size s (pos + (Utf8.decode s pos).2)) := by
        intro k x hk hb hx
        have h1 := hok k x hk hb hx
        have hlt := (Array.getElem?_eq_some_iff.1 hk).1
        exact (Lib.iterAt_other wr w.heap.size k s _ (by omega)).trans h1
      generalize Utf8.decode s pos = dc at *
      obtain ⟨c, d⟩ := dc
      simp only at *
      generalize wr.iterAt w.heap.size s (pos + d) = W3 at *
      have hm : ∀ W : World, W.heap[w.heap.size]? = some (.stringIter s (pos + d)) → s.size - W.iterPos w.heap.size < s.size - wr.iterPos w.heap.size := by
        intro W hW
        simp only [World.iterPos, hW, hit]
        omega
      have t3 := tab_below ht hbw3 h3
      have hpart := part_k b ns' c hch W3 hw3 t3 h3 (by omega)
      have hpl := partL_len c
      have hnl := numL_len c
      have HPos : Hid (1 ≤ d) := hwd
      clear hbw hit hok hw
      cases hd : digitZ (c : Int)
      · have HX : Hid (escAt s pos c = partL c) := by show escAt s pos c = _; unfold escAt; rw [hd]; rfl
        go_wp2_with (go_at_call 37; fail)
        refine (digit_any _ _).mono ?_
        rintro e w' ⟨rfl, rfl⟩
        go_wp2_with (go_at_call 87; fail)
        refine (hpart).mono ?_
        rintro e w5 ⟨rfl, h5, b5, k5⟩
        go_wp2
        go_roundw
        case rel =>
          have hp1 := HPos.out
          refine ⟨pos + d, f, _, k5.iter hit3 (by omega), h5, hbw3.trans b5, hok3.trans k5, ?_, by omega, ?_⟩
          · rw [HQ.out, HA.out, HX.out, List.append_assoc]
          · rw [List.length_append]
            omega
        case measure => exact hm _ (k5.iter hit3 (by omega))
      · have hc128 : (c : Int) < 128 := by
          unfold digitZ at hd
          simp at hd
          omega
        have hnum := number_k b ns' c (by omega) hc128 W3 hw3 t3 h3 (by omega)
        by_cases hp0 : pos = 0
        · subst hp0
          have HX : Hid (escAt s 0 c = numL c) := by show escAt s 0 c = _; unfold escAt; rw [hd]; rfl
          go_wp2_with (go_at_call 37; fail)
          refine (digit_any _ _).mono ?_
          rintro e w' ⟨rfl, rfl⟩
          go_wp2_with (go_at_call 86; fail)
          refine (hnum).mono ?_
          rintro e w5 ⟨rfl, h5, b5, k5⟩
          go_wp2
          go_roundw
          case rel =>
            have hp1 := HPos.out
            refine ⟨0 + d, f, _, k5.iter hit3 (by omega), h5, hbw3.trans b5, hok3.trans k5, ?_, by omega, ?_⟩
            · rw [HQ.out, HA.out, HX.out, List.append_assoc]
            · rw [List.length_append]
              omega
          case measure => exact hm _ (k5.iter hit3 (by omega))
        · have ep0 : ((pos : Int) == 0) = false := by simp; omega
          by_cases hp1 : pos = 1
          · subst hp1
            have hs0 : 0 < s.size := by omega
            have hget : s.get! 0 = s[0]'hs0 := by
              show s.data[0]! = s.data[0]
              rw [getElem!_pos s.data 0 hs0]
            by_cases h45 : (s[0]'hs0).toNat = 45
            · have HX : Hid (escAt s 1 c = numL c) := by
                show escAt s 1 c = _
                unfold escAt
                have e1 : (s.get! 0 == 45) = true := by
                  rw [hget, beq_iff_eq]
                  exact UInt8.toNat_inj.1 h45
                rw [hd, e1]
                rfl
              have e45 : (((s[0]'hs0).toNat : Int) == 45) = true := by rw [h45]; rfl
              clear hget
              go_wp2_with (go_at_call 37; fail)
              refine (digit_any _ _).mono ?_
              rintro e w' ⟨rfl, rfl⟩
              go_wp2_with (go_at_call 86; fail)
              refine (hnum).mono ?_
              rintro e w5 ⟨rfl, h5, b5, k5⟩
              go_wp2
              go_roundw
              case rel =>
                have hp1 := HPos.out
                refine ⟨1 + d, f, _, k5.iter hit3 (by omega), h5, hbw3.trans b5, hok3.trans k5, ?_, by omega, ?_⟩
                · rw [HQ.out, HA.out, HX.out, List.append_assoc]
                · rw [List.length_append]
                  omega
              case measure => exact hm _ (k5.iter hit3 (by omega))
            · have HX : Hid (escAt s 1 c = partL c) := by
                show escAt s 1 c = _
                unfold escAt
                have e1 : (s.get! 0 == 45) = false := by
                  rw [hget]
                  rw [Bool.eq_false_iff]
                  intro e
                  rw [beq_iff_eq] at e
                  exact h45 (by rw [e]; rfl)
                rw [hd, e1]
                rfl
              have e45 : (((s[0]'hs0).toNat : Int) == 45) = false := by simp; omega
              clear hget
              go_wp2_with (go_at_call 37; fail)
              refine (digit_any _ _).mono ?_
              rintro e w' ⟨rfl, rfl⟩
              go_wp2_with (go_at_call 87; fail)
              refine (hpart).mono ?_
              rintro e w5 ⟨rfl, h5, b5, k5⟩
              go_wp2
              go_roundw
              case rel =>
                have hp1 := HPos.out
                refine ⟨1 + d, f, _, k5.iter hit3 (by omega), h5, hbw3.trans b5, hok3.trans k5, ?_, by omega, ?_⟩
                · rw [HQ.out, HA.out, HX.out, List.append_assoc]
                · rw [List.length_append]
                  omega
              case measure => exact hm _ (k5.iter hit3 (by omega))
          · have ep1 : ((pos : Int) == 1) = false := by simp; omega
            have HX : Hid (escAt s pos c = partL c) := by
              show escAt s pos c = _
              unfold escAt
              have e1 : (pos == 0) = false := by simpa using hp0
              have e2 : (pos == 1) = false := by simpa using hp1
              rw [hd, e1, e2]
              rfl
            go_wp2_with (go_at_call 37; fail)
            refine (digit_any _ _).mono ?_
            rintro e w' ⟨rfl, rfl⟩
            go_wp2_with (go_at_call 87; fail)
            refine (hpart).mono ?_
            rintro e w5 ⟨rfl, h5, b5, k5⟩
            go_wp2
            go_roundw
            case rel =>
              have hp1 := HPos.out
              refine ⟨pos + d, f, _, k5.iter hit3 (by omega), h5, hbw3.trans b5, hok3.trans k5, ?_, by omega, ?_⟩
              · rw [HQ.out, HA.out, HX.out, List.append_assoc]
              · rw [List.length_append]
                omega
            case measure => exact hm _ (k5.iter hit3 (by omega))
    · have hnx : ∀ ty, (Instr.next (.pointer (some ⟨w.heap.size, 0, none⟩)) true ty).run Tryz.prog wr = _ := fun ty => Lib.run_next_end_at wr w.heap.size s pos ty hit hp
      have HE : Hid (ns ++ escFrom s s.size 0 = ns') := by
        have := HQ.out
        rw [escFrom_end s fuel pos hp, List.append_nil] at this
        exact this
      go_wp2
      go_end0
      exact ⟨rfl, by rw [HE.out]; exact hw, hbw, hok⟩
end Go.Proofs.YtbfgnfcecfjlnaaGreatDoor
namespace Go.Proofs.YtbfgnfcecfjlnaaGreatDoor
open Go.RowKit
set_option maxRecDepth 100000

theorem tab_alloc {w : World} (h : Tab w) (h3 : 3 < w.heap.size) (o : Obj) : Tab (w.alloc o) := tab_below h ((Below.refl _ w).alloc (Nat.le_refl _) o) h3

theorem name_dash (b : Nat) (ns : List Int) (w : World) (h : Wr b ns w) (hlen : ns.length ≤ 100000000000) :
    Calls Tryz.prog 40 #[.pointer (some ⟨b, 0, none⟩), .string ⟨#[45]⟩] w fun e w' => e = .returned (.tuple #[]) ∧ Wr b (ns ++ slashL 45) w' ∧ Below b w w' ∧ Lib.OthersKept 5 (some b) w w' := by
  have hs := slashed_k b ns 45 ⟨by omega, by omega, by omega⟩ w h hlen
  go_enter Tryz.func40, Tryz.ntmps40
  go_wp2_with (go_at_call 85; fail)
  refine (hs).mono ?_
  rintro e w1 ⟨rfl, h1, b1, k1⟩
  go_wp2
  refine bodyPost_ret (results_none rfl _ _ _) rfl ?_
  exact ⟨rfl, h1, b1, k1⟩
theorem name_all (b : Nat) (ns : List Int) (s : ByteArray) (hs : s.size ≤ 1000000000) (w : World) (h : Wr b ns w) (ht : Tab w) (h3 : 3 < b) (hlen : ns.length ≤ 10000000000) :
    Calls Tryz.prog 40 #[.pointer (some ⟨b, 0, none⟩), .string s] w fun e w' => e = .returned (.tuple #[]) ∧ Wr b (ns ++ escL s) w' ∧ Below b w w' ∧ Lib.OthersKept 5 (some b) w w' := by
  by_cases h45 : s = ⟨#[45]⟩
  · subst h45
    exact name_dash b ns w h (by omega)
  · have e : escL s = escFrom s s.size 0 := by unfold escL; rw [if_neg h45]
    rw [e]
    exact name_k b ns s hs h45 w h ht h3 hlen

set_option maxHeartbeats 1000000 in
theorem escape_str (s : ByteArray) (hs : s.size ≤ 1000000000) (w : World) (ht : Tab w) (h3 : 3 < w.heap.size) :
    Calls Tryz.prog 13 #[.string s] w fun e w' => e = .returned (.string (strOfNums (escL s))) ∧ Below w.heap.size w w' := by
  have hw := wr_new w
  have htA := tab_alloc ht h3 (.cells #[.pointer none, .slice none 0 0] 58)
  have hB : Below w.heap.size w (w.alloc (.cells #[.pointer none, .slice none 0 0] 58)) := (Below.refl _ w).alloc (Nat.le_refl _) _
  have hn := name_all w.heap.size [] s hs _ hw htA h3 (by simp)
  rw [List.nil_append] at hn
  clear ht htA hw
  go_enter Tryz.func13, Tryz.ntmps13
  go_wp2_with (go_at_call 40; fail)
  refine (hn).mono ?_
  rintro e w1 ⟨rfl, h1, b1, k1⟩
  go_wp2_with (go_at_call 41; fail)
  refine (wr_string w.heap.size (escL s) w1 h1).mono ?_
  rintro e w2 ⟨rfl, b2⟩
  go_wp2
  go_ret
  exact ⟨rfl, hB.trans (b1.trans b2)⟩
end Go.Proofs.YtbfgnfcecfjlnaaGreatDoor
