/- What the writer writes of a text, character by character, and of a number's unit. A number's digits: gouachelaw02.digits. token.Int of a text of digits, at times behind a minus. -/
import Derived.Test.YtbfgnfcecfjlnaaDoorQuotes
namespace Go.Proofs.YtbfgnfcecfjlnaaDoor
open Go.RowKit

def partsL (s : ByteArray) : List Int := (chars s).flatMap partL
def PartsGo (b : Nat) (ns : List Int) (s : ByteArray) (w wr : World) : Prop :=
  ∃ (pos fuel : Nat) (ns' : List Int), wr.heap[w.heap.size]? = some (.stringIter s pos) ∧ Wr b ns' wr ∧ Below b w wr ∧ Lib.OthersKept 5 (some b) w wr ∧ ns' ++ (charsFrom s fuel pos).flatMap partL = ns ++ partsL s ∧ s.size ≤ pos + fuel ∧ ns'.length ≤ ns.length + 5 * pos ∧ pos ≤ s.size

set_option maxHeartbeats 4000000 in
set_option maxRecDepth 100000 in
theorem parts_k (b : Nat) (ns : List Int) (s : ByteArray) (hs : s.size ≤ 1000000000) (w : World) (h : Wr b ns w) (ht : Tab w) (h3 : 3 < b) (hlen : ns.length ≤ 10000000000) :
    Calls Tryd.prog 48 #[.pointer (some ⟨b, 0, none⟩), .string s] w fun e w' => e = .returned (.tuple #[]) ∧ Wr b (ns ++ partsL s) w' ∧ Below b w w' ∧ Lib.OthersKept 5 (some b) w w' := by
  have hltb := wr_lt h
  go_enter Tryd.func48, Tryd.ntmps48
  go_wp2
  go_loopw [] (fun wr => PartsGo b ns s w wr) (fun wr => s.size - wr.iterPos w.heap.size)
  case atStart =>
    have hal : Below w.heap.size w (w.iter s 0) := Below.iter (Below.refl _ w) (Nat.le_refl _) s 0
    exact ⟨0, s.size, ns, World.iter_heap w s 0, wr_below h hal (by omega), hal.mono (by omega), kept_below hal, rfl, by omega, by omega, by omega⟩
  case round =>
    obtain ⟨pos, fuel, ns', hit, hw, hbw, hok, heq, hfu, hln, hps⟩ := hrel
    have HQ : Hid (ns ++ partsL s = ns' ++ (charsFrom s fuel pos).flatMap partL) := heq.symm
    clear heq h
    by_cases hp : pos < s.size
    · have hnx : ∀ ty, (Instr.next (.pointer (some ⟨w.heap.size, 0, none⟩)) true ty).run Tryd.prog wr = _ := fun ty => Lib.run_next_any_at wr w.heap.size s pos ty hit hp
      have hwd := Lib.decode_width_pos s pos hp
      have hch := dec_char s pos
      have hw2 : (Utf8.decode s pos).2 ≤ s.size - pos := by
        rw [Lib.decode_at]
        exact decodeN_width _ _ _ _ _ (by omega)
      obtain ⟨f, rfl⟩ : ∃ f, fuel = f + 1 := ⟨fuel - 1, by omega⟩
      have HA : Hid ((charsFrom s (f + 1) pos).flatMap partL = partL (Utf8.decode s pos).1 ++ (charsFrom s f (pos + (Utf8.decode s pos).2)).flatMap partL) := by show _ = _; rw [charsFrom, if_pos hp, List.flatMap_cons]
      have hit3 := Lib.iterAt_heap wr w.heap.size s pos (pos + (Utf8.decode s pos).2) hit
      have hbw3 := Lib.below_iterAt hbw (k := w.heap.size) (by omega) s (pos + (Utf8.decode s pos).2)
      have hw3 := wr_iter hw hit (pos + (Utf8.decode s pos).2)
      have hok3 : Lib.OthersKept 5 (some b) w (wr.iterAt w.heap.size s (pos + (Utf8.decode s pos).2)) := by
        intro k x hk hb hx
        have h1 := hok k x hk hb hx
        have hlt := (Array.getElem?_eq_some_iff.1 hk).1
        exact (Lib.iterAt_other wr w.heap.size k s _ (by omega)).trans h1
      generalize Utf8.decode s pos = dc at *
      obtain ⟨c, d⟩ := dc
      simp only at *
      generalize wr.iterAt w.heap.size s (pos + d) = W3 at *
      have hm : ∀ W : World, W.heap[w.heap.size]? = some (.stringIter s (pos + d)) → s.size - W.iterPos w.heap.size < s.size - wr.iterPos w.heap.size := by
        intro W hW
        simp only [World.iterPos, hW, hit]
        omega
      have t3 := tab_below ht hbw3 h3
      have hpart := part_k b ns' c hch W3 hw3 t3 h3 (by omega)
      have hpl := partL_len c
      have HPos : Hid (1 ≤ d) := hwd
      clear hbw hit hok hw
      go_wp2_with (go_at_call 46; fail)
      refine (hpart).mono ?_
      rintro e w5 ⟨rfl, h5, b5, k5⟩
      go_wp2
      go_roundw
      case rel =>
        have hp1 := HPos.out
        refine ⟨pos + d, f, _, k5.iter hit3 (by omega), h5, hbw3.trans b5, hok3.trans k5, ?_, by omega, ?_, by omega⟩
        · rw [HQ.out, HA.out, List.append_assoc]
        · rw [List.length_append]
          omega
      case measure => exact hm _ (k5.iter hit3 (by omega))
    · have hnx : ∀ ty, (Instr.next (.pointer (some ⟨w.heap.size, 0, none⟩)) true ty).run Tryd.prog wr = _ := fun ty => Lib.run_next_end_at wr w.heap.size s pos ty hit hp
      have HE : Hid (ns ++ partsL s = ns') := by
        show ns ++ partsL s = ns'
        have := HQ.out
        rw [charsFrom_end _ _ _ hp] at this
        simpa using this
      go_wp2
      go_end0
      exact ⟨rfl, by rw [HE.out]; exact hw, hbw, hok⟩

def eB (s : ByteArray) : Bool := decide (0 < s.size) && ((s.get! 0).toNat == 101 || (s.get! 0).toNat == 69)
def unitL (s : ByteArray) : List Int := if eB s then numL (s.get! 0).toNat ++ partsL (s.extract 1 s.size) else escL s

set_option maxHeartbeats 1000000 in
set_option maxRecDepth 100000 in
theorem unit_k (b : Nat) (ns : List Int) (s : ByteArray) (hs : s.size ≤ 1000000000) (h0 : 0 < s.size) (w : World) (h : Wr b ns w) (ht : Tab w) (h3 : 3 < b) (hlen : ns.length ≤ 1000000000) :
    Calls Tryd.prog 25 #[.pointer (some ⟨b, 0, none⟩), .string s] w fun e w' => e = .returned (.tuple #[]) ∧ Wr b (ns ++ unitL s) w' ∧ Below b w w' ∧ Lib.OthersKept 5 (some b) w w' := by
  have hne : s ≠ ⟨#[]⟩ := by
    intro e
    rw [e] at h0
    exact absurd h0 (by decide)
  have hne3 : (s.toList == []) = false := by
    rw [Bool.eq_false_iff]
    intro h
    rw [beq_iff_eq, ByteArray.toList_eq] at h
    exact hne (ByteArray.ext (Array.toList_inj.1 h))
  have hne1 : (s == ⟨#[]⟩) = false := by rw [beq_toListBytes, ByteArray.toList_eq ⟨#[]⟩]; exact hne3
  have hget : s.get! 0 = s[0]'h0 := by
    show s.data[0]! = s.data[0]
    rw [getElem!_pos s.data 0 h0]
  clear hne
  have hn1 : (s.extract 1 s.size).size ≤ 1000000000 := by simp; omega
  by_cases he : (s[0]'h0).toNat = 101 ∨ (s[0]'h0).toNat = 69
  · have HL : Hid (ns ++ unitL s = (ns ++ numL (s[0]'h0).toNat) ++ partsL (s.extract 1 s.size)) := by
      show ns ++ unitL s = _
      have : eB s = true := by
        unfold eB
        rw [hget]
        simp [h0]
        exact he
      unfold unitL
      rw [if_pos this, hget, List.append_assoc]
    have hlt : ((s[0]'h0).toNat : Int) < 128 := by omega
    have hnum := number_k b ns ((s[0]'h0).toNat : Int) (by omega) hlt w h ht h3 (by omega)
    have hnl := numL_len ((s[0]'h0).toNat : Int)
    have hln2 : (ns ++ numL ((s[0]'h0).toNat : Int)).length ≤ 10000000000 := by rw [List.length_append]; omega
    have hpk := fun w' hw' ht' => parts_k b (ns ++ numL ((s[0]'h0).toNat : Int)) (s.extract 1 s.size) hn1 w' hw' ht' h3 hln2
    have HPK := hid_mk hpk
    clear hpk hget hnl hln2
    rcases he with h101 | h69
    · have e1 : ((((s[0]'h0).toNat : Int)) != 101) = false := by rw [h101]; rfl
      clear h101
      go_enter Tryd.func25, Tryd.ntmps25
      go_wp2_with (go_at_call 45; fail)
      refine (hnum).mono ?_
      rintro e w1 ⟨rfl, h1, b1, k1⟩
      go_wp2_with (go_at_call 48; fail)
      refine (HPK.out w1 h1 (tab_below ht b1 h3)).mono ?_
      rintro e w2 ⟨rfl, h2, b2, k2⟩
      go_wp2
      go_end0
      exact ⟨rfl, by rw [HL.out]; exact h2, b1.trans b2, k1.trans k2⟩
    · have e1 : ((((s[0]'h0).toNat : Int)) != 101) = true := by rw [h69]; rfl
      have e2 : ((((s[0]'h0).toNat : Int)) != 69) = false := by rw [h69]; rfl
      clear h69
      go_enter Tryd.func25, Tryd.ntmps25
      go_wp2_with (go_at_call 45; fail)
      refine (hnum).mono ?_
      rintro e w1 ⟨rfl, h1, b1, k1⟩
      go_wp2_with (go_at_call 48; fail)
      refine (HPK.out w1 h1 (tab_below ht b1 h3)).mono ?_
      rintro e w2 ⟨rfl, h2, b2, k2⟩
      go_wp2
      go_end0
      exact ⟨rfl, by rw [HL.out]; exact h2, b1.trans b2, k1.trans k2⟩
  · have HL : Hid (ns ++ unitL s = ns ++ escL s) := by
      show ns ++ unitL s = _
      have : eB s = false := by
        unfold eB
        rw [hget]
        simp [h0]
        omega
      unfold unitL
      rw [if_neg (by simp [this])]
    have e1 : ((((s[0]'h0).toNat : Int)) != 101) = true := by simp; omega
    have e2 : ((((s[0]'h0).toNat : Int)) != 69) = true := by simp; omega
    have hnm := name_all b ns s hs w h ht h3 (by omega)
    clear he hget
    go_enter Tryd.func25, Tryd.ntmps25
    go_wp2_with (go_at_call 21; fail)
    refine (hnm).mono ?_
    rintro e w1 ⟨rfl, h1, b1, k1⟩
    go_wp2
    refine bodyPost_ret (results_none rfl _ _ _) rfl ?_
    exact ⟨rfl, by rw [HL.out]; exact h1, b1, k1⟩

/-- A Dimension's text: its number as it is written, and its unit. -/
theorem source_dim (ds : List Int) (hds : ∀ n ∈ ds, 0 ≤ n ∧ n < 256) (hd0 : ds ≠ []) (hdl : ds.length ≤ 1000) (u : ByteArray) (hu : u.size ≤ 1000000000) (hu0 : 0 < u.size) (wh fl : Bool) (w : World) (ht : Tab w) (h3 : 3 < w.heap.size) :
    Calls Tryd.prog 13 #[.agg #[.int .i64 12, .string (strOfNums ds), .string u, .bool wh, .bool fl]] w fun e w' => e = .returned (.string (strOfNums (ds ++ unitL u))) ∧ Below w.heap.size w w' := by
  have hB1 : Below w.heap.size w ((w.alloc (.cells #[.int .i64 12, .string (strOfNums ds), .string u, .bool wh, .bool fl] 28)).alloc (.cells #[.pointer none, .slice none 0 0] 44)) := ((Below.refl _ w).alloc (Nat.le_refl _) _).alloc (by simp) _
  have hw := wr_new (w.alloc (.cells #[.int .i64 12, .string (strOfNums ds), .string u, .bool wh, .bool fl] 28))
  have e9 : (w.alloc (.cells #[.int .i64 12, .string (strOfNums ds), .string u, .bool wh, .bool fl] 28)).heap.size = w.heap.size + 1 := by simp
  rw [e9] at hw
  have ht0 : Tab ((w.alloc (.cells #[.int .i64 12, .string (strOfNums ds), .string u, .bool wh, .bool fl] 28)).alloc (.cells #[.pointer none, .slice none 0 0] 44)) := tab_below ht hB1 h3
  have hstr := wr_str_k (w.heap.size + 1) [] ds hds hd0 _ hw (by simp; omega)
  have hc2 : ((w.alloc (.cells #[.int .i64 12, .string (strOfNums ds), .string u, .bool wh, .bool fl] 28)).alloc (.cells #[.pointer none, .slice none 0 0] 44)).cell? ⟨w.heap.size, 2, none⟩ = some (.string u) := by
    have h := heap_alloc_new w (.cells #[.int .i64 12, .string (strOfNums ds), .string u, .bool wh, .bool fl] 28)
    have h2 := (Below.heap_alloc (w.alloc (.cells #[.int .i64 12, .string (strOfNums ds), .string u, .bool wh, .bool fl] 28)) (.cells #[.pointer none, .slice none 0 0] 44) w.heap.size (by simp)).trans h
    simp only [World.cell?, h2]
    rfl
  rw [List.nil_append] at hstr
  clear e9 hw
  go_enter Tryd.func13, Tryd.ntmps13
  go_wp2_with (go_at_call 24; fail)
  refine (hstr).mono ?_
  rintro e w1 ⟨⟨rn, rfl⟩, h1, b1, k1⟩
  have c2 := (b1.cell (p := ⟨w.heap.size, 2, none⟩) (by simp)).trans hc2
  have ht1 := tab_below ht0 b1 (by omega)
  have hun := unit_k (w.heap.size + 1) ds u hu hu0 w1 h1 ht1 (by omega) (by omega)
  clear hc2 hstr ht0
  go_wp2_with (go_at_call 25; fail)
  refine (hun).mono ?_
  rintro e w2 ⟨rfl, h2, b2, k2⟩
  go_wp2_with (go_at_call 20; fail)
  refine (wr_string (w.heap.size + 1) (ds ++ unitL u) w2 h2).mono ?_
  rintro e w3 ⟨rfl, b3⟩
  go_wp2
  go_ret
  exact ⟨rfl, hB1.trans ((b1.trans (b2.trans b3)).mono (by omega))⟩
end Go.Proofs.YtbfgnfcecfjlnaaDoor
namespace Go.Proofs.YtbfgnfcecfjlnaaDoor
open Go.RowKit

def decF : Nat → Nat → List Int → List Int
  | 0, _, acc => acc
  | f + 1, u, acc => if u / 10 = 0 then ((48 + u % 10 : Nat) : Int) :: acc else decF f (u / 10) (((48 + u % 10 : Nat) : Int) :: acc)
def decU (u : Nat) : List Int := decF 20 u []
def signD (n : Int) : List Int := if n < 0 then 45 :: decU (-n).toNat else decU n.toNat
def digT : ByteArray := ⟨#[48, 49, 50, 51, 52, 53, 54, 55, 56, 57]⟩
theorem digT_at : ∀ m : Fin 10, digT.extract m.val (m.val + 1) = strOfNums [((48 + m.val : Nat) : Int)] := by decide +kernel
theorem nums_cons (c : Int) (l : List Int) : strOfNums [c] ++ strOfNums l = strOfNums (c :: l) := by rw [← nums_two]; rfl

theorem empty_str (l : List Int) : (⟨#[]⟩ ++ strOfNums l : ByteArray) = strOfNums l := by
  apply ByteArray.ext
  rw [ByteArray.data_append]
  simp
def p10 (f : Nat) : Nat := 10 ^ f
theorem p10_20 (u : Nat) (h : u ≤ 9223372036854775808) : u < p10 20 := by
  have : p10 20 = 100000000000000000000 := by decide
  omega

set_option maxHeartbeats 400000 in
set_option maxRecDepth 100000 in
theorem digits_pos (N : Nat) (h1 : (N : Int) ≤ 9223372036854775807) (w : World) : Calls Tryd.prog 15 #[.int .i64 (N : Int)] w fun e w' => e = .returned (.string (strOfNums (decU N))) ∧ w = w' := by
  have hn0 : ¬ (N : Int) < 0 := by omega
  go_enter Tryd.func15, Tryd.ntmps15
  go_wp2
  go_loop [3, 5] (fun a3 a5 => ∃ (f u : Nat) (acc : List Int), a3 = .int .u64 (u : Int) ∧ a5 = .string (strOfNums acc) ∧ decF f u acc = decU N ∧ u < p10 f ∧ (u : Int) ≤ 9223372036854775808 ∧ acc.length + f = 20 ∧ 0 < f) (fun a3 _ => (intOf a3).toNat)
  case atStart => exact ⟨20, N, [], rfl, rfl, rfl, p10_20 N (by omega), by omega, rfl, by omega⟩
  case round =>
    obtain ⟨f, u, acc, rfl, rfl, hdec, hu, hub, hlen, hf0⟩ := hrel
    have HD := hid_mk hdec
    have HU := hid_mk hu
    clear hdec hu
    have hm0 : 0 ≤ (u : Int) % 10 := by omega
    have hm1 : (u : Int) % 10 < 10 := by omega
    have hsa : (strOfNums acc).size ≤ 20 := by rw [strOf_size]; omega
    have hse : ((⟨#[48, 49, 50, 51, 52, 53, 54, 55, 56, 57]⟩ : ByteArray).extract (u % 10) (u % 10 + 1)).size ≤ 1 := by simp; omega
    have HX : Hid ((⟨#[48, 49, 50, 51, 52, 53, 54, 55, 56, 57]⟩ : ByteArray).extract (u % 10) (u % 10 + 1) ++ strOfNums acc = strOfNums (((48 + u % 10 : Nat) : Int) :: acc)) := by
      show (⟨#[48, 49, 50, 51, 52, 53, 54, 55, 56, 57]⟩ : ByteArray).extract (u % 10) (u % 10 + 1) ++ strOfNums acc = _
      have := digT_at ⟨u % 10, by omega⟩
      show digT.extract (u % 10) (u % 10 + 1) ++ strOfNums acc = _
      rw [this, nums_cons]
    by_cases hq : u / 10 = 0
    · have hz : ((u : Int) / 10 == 0) = true := by
        have : (u : Int) / 10 = 0 := by omega
        rw [this]; rfl
      have HE : Hid (((48 + u % 10 : Nat) : Int) :: acc = decU N) := by
        show ((48 + u % 10 : Nat) : Int) :: acc = decU N
        have h := HD.out
        obtain ⟨f', rfl⟩ : ∃ f', f = f' + 1 := ⟨f - 1, by omega⟩
        rw [decF, if_pos hq] at h
        exact h
      go_wp2
      go_ret
      exact ⟨congrArg (fun x => Ending.returned (Value.string x)) (by show (⟨#[]⟩ ++ (_ ++ strOfNums acc) : ByteArray) = _; rw [HX.out, HE.out]; exact empty_str _), rfl⟩
    · have hz : ((u : Int) / 10 == 0) = false := by
        have : (u : Int) / 10 ≠ 0 := by omega
        simpa using this
      go_wp2
      go_round
      case rel =>
        have h := HD.out
        have h2 := HU.out
        obtain ⟨f', rfl⟩ : ∃ f', f = f' + 1 := ⟨f - 1, by omega⟩
        rw [decF, if_neg hq] at h
        have h3 : u / 10 < p10 f' := by
          unfold p10 at h2 ⊢
          rw [Nat.pow_succ] at h2
          omega
        have h4 : 0 < f' := by
          cases f' with
          | zero => unfold p10 at h3; simp at h3; omega
          | succ k => omega
        exact ⟨f', u / 10, _, by go_num, congrArg Value.string HX.out, h, h3, by omega, by simp; omega, h4⟩
      case measure => simp [intOf]; omega
theorem wrap_neg {n : Int} {N : Nat} (hn : n = -(N : Int)) (h0 : n < 0) (h1 : (N : Int) ≤ 9223372036854775808) : IntKind.u64.wrap (-IntKind.u64.wrap n) = (N : Int) := by
  have e : ∀ x : Int, IntKind.u64.wrap x = x % 18446744073709551616 := by
    intro x
    have hb : IntKind.u64.bits = 64 := rfl
    have hsg : IntKind.u64.signed = false := rfl
    simp [IntKind.wrap, hb, hsg]
  rw [e, e]
  omega
set_option maxHeartbeats 400000 in
set_option maxRecDepth 100000 in
theorem digits_neg (N : Nat) (n : Int) (hn : n = -(N : Int)) (h0 : n < 0) (h1 : (N : Int) ≤ 9223372036854775808) (w : World) : Calls Tryd.prog 15 #[.int .i64 n] w fun e w' => e = .returned (.string (strOfNums (45 :: decU N))) ∧ w = w' := by
  have hwr : IntKind.u64.wrap (-IntKind.u64.wrap n) = (N : Int) := wrap_neg hn h0 h1
  have hn9 : -9223372036854775808 ≤ n := by omega
  clear hn
  go_enter Tryd.func15, Tryd.ntmps15
  go_wp2
  go_loop [3, 5] (fun a3 a5 => ∃ (f u : Nat) (acc : List Int), a3 = .int .u64 (u : Int) ∧ a5 = .string (strOfNums acc) ∧ decF f u acc = decU N ∧ u < p10 f ∧ (u : Int) ≤ 9223372036854775808 ∧ acc.length + f = 20 ∧ 0 < f) (fun a3 _ => (intOf a3).toNat)
  case atStart => exact ⟨20, N, [], rfl, rfl, rfl, p10_20 N (by omega), by omega, rfl, by omega⟩
  case round =>
    obtain ⟨f, u, acc, rfl, rfl, hdec, hu, hub, hlen, hf0⟩ := hrel
    have HD := hid_mk hdec
    have HU := hid_mk hu
    clear hdec hu
    have hm0 : 0 ≤ (u : Int) % 10 := by omega
    have hm1 : (u : Int) % 10 < 10 := by omega
    have hsa : (strOfNums acc).size ≤ 20 := by rw [strOf_size]; omega
    have hse : ((⟨#[48, 49, 50, 51, 52, 53, 54, 55, 56, 57]⟩ : ByteArray).extract (u % 10) (u % 10 + 1)).size ≤ 1 := by simp; omega
    have HX : Hid ((⟨#[48, 49, 50, 51, 52, 53, 54, 55, 56, 57]⟩ : ByteArray).extract (u % 10) (u % 10 + 1) ++ strOfNums acc = strOfNums (((48 + u % 10 : Nat) : Int) :: acc)) := by
      show (⟨#[48, 49, 50, 51, 52, 53, 54, 55, 56, 57]⟩ : ByteArray).extract (u % 10) (u % 10 + 1) ++ strOfNums acc = _
      have := digT_at ⟨u % 10, by omega⟩
      show digT.extract (u % 10) (u % 10 + 1) ++ strOfNums acc = _
      rw [this, nums_cons]
    by_cases hq : u / 10 = 0
    · have hz : ((u : Int) / 10 == 0) = true := by
        have : (u : Int) / 10 = 0 := by omega
        rw [this]; rfl
      have HE : Hid (((48 + u % 10 : Nat) : Int) :: acc = decU N) := by
        show ((48 + u % 10 : Nat) : Int) :: acc = decU N
        have h := HD.out
        obtain ⟨f', rfl⟩ : ∃ f', f = f' + 1 := ⟨f - 1, by omega⟩
        rw [decF, if_pos hq] at h
        exact h
      go_wp2
      go_ret
      exact ⟨congrArg (fun x => Ending.returned (Value.string x)) (by show (⟨#[45]⟩ ++ (_ ++ strOfNums acc) : ByteArray) = _; rw [HX.out, HE.out]; exact nums_cons 45 _), rfl⟩
    · have hz : ((u : Int) / 10 == 0) = false := by
        have : (u : Int) / 10 ≠ 0 := by omega
        simpa using this
      go_wp2
      go_round
      case rel =>
        have h := HD.out
        have h2 := HU.out
        obtain ⟨f', rfl⟩ : ∃ f', f = f' + 1 := ⟨f - 1, by omega⟩
        rw [decF, if_neg hq] at h
        have h3 : u / 10 < p10 f' := by
          unfold p10 at h2 ⊢
          rw [Nat.pow_succ] at h2
          omega
        have h4 : 0 < f' := by
          cases f' with
          | zero => unfold p10 at h3; simp at h3; omega
          | succ k => omega
        exact ⟨f', u / 10, _, by go_num, congrArg Value.string HX.out, h, h3, by omega, by simp; omega, h4⟩
      case measure => simp [intOf]; omega
end Go.Proofs.YtbfgnfcecfjlnaaDoor
namespace Go.Proofs.YtbfgnfcecfjlnaaDoor
open Go.RowKit

def Dig (l : List Int) : Prop := ∀ c ∈ l, 48 ≤ c ∧ c ≤ 57
theorem str_not_empty {l : List Int} (h : l ≠ []) : ((strOfNums l).toList == []) = false ∧ (strOfNums l == ⟨#[]⟩) = false := by
  have hne : strOfNums l ≠ ⟨#[]⟩ := by
    intro e
    have := congrArg ByteArray.size e
    rw [strOf_size] at this
    exact h (List.length_eq_zero_iff.1 this)
  have hne3 : ((strOfNums l).toList == []) = false := by
    rw [Bool.eq_false_iff]
    intro h
    rw [beq_iff_eq, ByteArray.toList_eq] at h
    exact hne (ByteArray.ext (Array.toList_inj.1 h))
  exact ⟨hne3, by rw [beq_toListBytes, ByteArray.toList_eq ⟨#[]⟩]; exact hne3⟩
theorem str_head {c : Int} {l : List Int} (hc : 0 ≤ c ∧ c < 256) (h0 : 0 < (strOfNums (c :: l)).size) : (((strOfNums (c :: l))[0]'h0).toNat : Int) = c := by
  show (((UInt8.ofNat c.toNat).toNat : Nat) : Int) = c
  simp only [UInt8.toNat_ofNat']
  omega
theorem str_tail (c : Int) (l : List Int) : (strOfNums (c :: l)).extract 1 (strOfNums (c :: l)).size = strOfNums l := by
  have e : strOfNums (c :: l) = strOfNums [c] ++ strOfNums l := (nums_cons c l).symm
  have h1 : (strOfNums [c]).size = 1 := rfl
  rw [e]
  apply ByteArray.ext
  simp [ByteArray.data_extract, ByteArray.data_append, strOfNums]
  refine List.take_of_length_le ?_
  simp [ByteArray.size]

theorem ret2_sb {a c : ByteArray} {b : Bool} (h : a = c) : Ending.returned (.tuple #[.string a, .bool b]) = .returned (.tuple #[.string c, .bool b]) := by rw [h]
theorem unsigned_pos (c : Int) (l : List Int) (hc : 48 ≤ c ∧ c ≤ 57) (w : World) : Calls Tryd.prog 27 #[.string (strOfNums (c :: l))] w fun e w' => e = .returned (.tuple #[.string (strOfNums (c :: l)), .bool false]) ∧ w = w' := by
  obtain ⟨n3, n1⟩ := str_not_empty (l := c :: l) (by simp)
  have h0 : 0 < (strOfNums (c :: l)).size := by rw [strOf_size]; simp
  have hh := str_head (l := l) (c := c) (by omega) h0
  generalize strOfNums (c :: l) = s at *
  have e1 : (((s[0]'h0).toNat : Int) != 43) = true := by rw [hh]; simp; omega
  have e2 : (((s[0]'h0).toNat : Int) != 45) = true := by rw [hh]; simp; omega
  clear hh
  go_enter Tryd.func27, Tryd.ntmps27
  go_wp2
  go_ret2
  exact ⟨rfl, rfl⟩
theorem unsigned_neg (l : List Int) (w : World) : Calls Tryd.prog 27 #[.string (strOfNums (45 :: l))] w fun e w' => e = .returned (.tuple #[.string (strOfNums l), .bool true]) ∧ ∃ m, w' = w.drewN m := by
  obtain ⟨n3, n1⟩ := str_not_empty (l := 45 :: l) (by simp)
  have h0 : 0 < (strOfNums (45 :: l)).size := by rw [strOf_size]; simp
  have hh := str_head (l := l) (c := 45) (by omega) h0
  have HT := hid_mk (str_tail 45 l)
  generalize strOfNums (45 :: l) = s at *
  have e1 : (((s[0]'h0).toNat : Int) != 43) = true := by rw [hh]; simp
  have e2 : (((s[0]'h0).toNat : Int) != 45) = false := by rw [hh]; simp
  have e3 : (((s[0]'h0).toNat : Int) == 45) = true := by rw [hh]; simp
  clear hh
  go_enter Tryd.func27, Tryd.ntmps27
  go_wp2
  go_quiet (fail)
  go_wp2
  go_ret2
  exact ⟨ret2_sb HT.out, _, rfl⟩
def satZ (n : Int) (c : Int) : Int := if 1000000 < n * 10 + (c - 48) then 1000000 else n * 10 + (c - 48)
def satL (l : List Int) : Int := l.foldl satZ 0
theorem satZ_bd {n c : Int} (h0 : 0 ≤ n) (hc : 48 ≤ c) : 0 ≤ satZ n c ∧ satZ n c ≤ 1000000 := by
  unfold satZ
  split <;> omega
theorem satL_snoc (l : List Int) (c : Int) : satL (l ++ [c]) = satZ (satL l) c := by unfold satL; rw [List.foldl_append]; rfl
theorem satL_bd : ∀ (l : List Int), Dig l → 0 ≤ satL l ∧ satL l ≤ 1000000 := by
  intro l h
  unfold satL
  have : ∀ (l : List Int) (n : Int), 0 ≤ n → n ≤ 1000000 → Dig l → 0 ≤ l.foldl satZ n ∧ l.foldl satZ n ≤ 1000000 := by
    intro l
    induction l with
    | nil => intro n h0 h1 _; exact ⟨h0, h1⟩
    | cons c r ih =>
      intro n h0 _ hd
      have hb := satZ_bd h0 (hd c (by simp)).1
      exact ih _ hb.1 hb.2 (fun x hx => hd x (by simp [hx]))
  exact this l 0 (by omega) (by omega) h
theorem hex_digit {c : Int} (h : 48 ≤ c ∧ c ≤ 57) : hexZ c = c - 48 := by unfold hexZ; rw [if_pos h]
theorem digit_yes {c : Int} (h : 48 ≤ c ∧ c ≤ 57) : digitZ c = true := by unfold digitZ; simp; omega
theorem dec_dig {ds : List Int} (hd : Dig ds) {p : Nat} (hp : p < ds.length) : Utf8.decode (strOfNums ds) p = ((ds.getD p 0).toNat, 1) ∧ 48 ≤ ds.getD p 0 ∧ ds.getD p 0 ≤ 57 := by
  have hm : ds.getD p 0 ∈ ds := by simp [List.getD, hp]
  have hb := hd _ hm
  have hall : ∀ n ∈ ds, 0 ≤ n ∧ n < 256 := fun n hn => by have := hd n hn; omega
  refine ⟨?_, hb⟩
  rw [Lib.decode_at, str_get hall]
  unfold Lib.decodeN
  rw [if_pos (by omega)]
theorem ret2_ib {a c : Int} (h : a = c) : Ending.returned (.tuple #[.int .i64 a, .bool true]) = .returned (.tuple #[.int .i64 c, .bool true]) := by rw [h]
def negZ (b : Bool) (n : Int) : Int := if b then -n else n

set_option maxHeartbeats 2000000 in
set_option maxRecDepth 100000 in
/-- Int, the text being s, which unsigned parts into the digits ds and whether it was below 0. -/
theorem int_any (k : Int) (hk : k = 10 ∨ k = 11 ∨ k = 12) (s u : ByteArray) (fl bl : Bool) (ds : List Int) (hd : Dig ds) (hne : ds ≠ []) (_hl : ds.length ≤ 1000) (w : World)
    (hun : ∀ w', Calls Tryd.prog 27 #[.string s] w' fun e w'' => e = .returned (.tuple #[.string (strOfNums ds), .bool bl]) ∧ ∃ m, w'' = w'.drewN m) :
    Calls Tryd.prog 16 #[.agg #[.int .i64 k, .string s, .string u, .bool true, .bool fl]] w fun e w' => e = .returned (.tuple #[.int .i64 (negZ bl (satL ds)), .bool true]) ∧ Below w.heap.size w w' := by
  obtain ⟨n3, n1⟩ := str_not_empty hne
  have hsz := strOf_size ds
  have HUN := hid_mk hun
  have hB1 : Below w.heap.size w (w.alloc (.cells #[.int .i64 k, .string s, .string u, .bool true, .bool fl] 28)) := (Below.refl _ w).alloc (Nat.le_refl _) _
  have HDEC := hid_mk (fun p hp => dec_dig hd (p := p) hp)
  have HSZ := hid_mk hsz
  clear hun hsz
  generalize hss : strOfNums ds = t at *
  have hk1 : (k == 10) = true ∨ ((k == 10) = false ∧ (k == 11) = true) ∨ ((k == 10) = false ∧ (k == 11) = false ∧ (k == 12) = true) := by
    rcases hk with rfl | rfl | rfl <;> decide
  clear hk hss
  rcases hk1 with a1 | ⟨a1, a2⟩ | ⟨a1, a2, a3⟩
  all_goals
    go_enter Tryd.func16, Tryd.ntmps16
    go_wp2_with (go_at_call 27; fail)
    refine (HUN.out _).mono ?_
    rintro e w1 ⟨rfl, m1, rfl⟩
    have c3 : ∀ m, ((w.alloc (.cells #[.int .i64 k, .string s, .string u, .bool true, .bool fl] 28)).drewN m).cell? ⟨w.heap.size, 3, none⟩ = some (.bool true) := by
      intro m
      have h := heap_alloc_new w (.cells #[.int .i64 k, .string s, .string u, .bool true, .bool fl] 28)
      have h2 : ((w.alloc (.cells #[.int .i64 k, .string s, .string u, .bool true, .bool fl] 28)).drewN m).heap[w.heap.size]? = some (.cells #[.int .i64 k, .string s, .string u, .bool true, .bool fl] 28 (0, 0)) := by rw [← h]; rfl
      simp only [World.cell?, h2]
      rfl
    have hb2 : Below w.heap.size w ((w.alloc (.cells #[.int .i64 k, .string s, .string u, .bool true, .bool fl] 28)).drewN m1) := hB1.trans ((Kept.drewN w.heap.size _ m1).below (by simp))
    have c3' := c3 m1
    generalize ((w.alloc (.cells #[.int .i64 k, .string s, .string u, .bool true, .bool fl] 28)).drewN m1) = w2 at *
    clear c3
    go_wp2
    go_loopw [6] (fun a6 wr => ∃ p : Nat, wr.heap[w2.heap.size]? = some (.stringIter t p) ∧ Below w.heap.size w wr ∧ a6 = .int .i64 (satL (ds.take p)) ∧ p ≤ ds.length) (fun _ wr => t.size - wr.iterPos w2.heap.size)
    case atStart => exact ⟨0, World.iter_heap w2 t 0, Below.iter hb2 hb2.size t 0, rfl, Nat.zero_le _⟩
    case round =>
      obtain ⟨p, hit, hbw, rfl, hp⟩ := hrel
      have hsb := satL_bd (ds.take p) (fun c hc => hd c (List.mem_of_mem_take hc))
      by_cases hlt : p < ds.length
      · obtain ⟨hdc, hc1, hc2⟩ := HDEC.out p hlt
        have hps : p < t.size := by rw [HSZ.out]; exact hlt
        have hnx : ∀ ty, (Instr.next (.pointer (some ⟨w2.heap.size, 0, none⟩)) true ty).run Tryd.prog wr = _ := fun ty => Lib.run_next_any_at wr w2.heap.size t p ty hit hps
        have hit3 := Lib.iterAt_heap wr w2.heap.size t p (p + (Utf8.decode t p).2) hit
        have hbw3 := Lib.below_iterAt hbw (k := w2.heap.size) hb2.size t (p + (Utf8.decode t p).2)
        rw [hdc] at hnx hit3 hbw3
        have hcn : (((ds.getD p 0).toNat : Nat) : Int) = ds.getD p 0 := by omega
        have HS : Hid (satL (ds.take (p + 1)) = satZ (satL (ds.take p)) (ds.getD p 0)) := by
          show satL (ds.take (p + 1)) = _
          rw [← satL_snoc]
          congr 1
          rw [List.take_add_one]
          simp [List.getD, hlt]
        simp only at hnx hit3 hbw3
        rw [hcn] at hnx
        have hdg := digit_any (ds.getD p 0) (wr.iterAt w2.heap.size t (p + 1))
        rw [digit_yes ⟨hc1, hc2⟩] at hdg
        have hhx := hex_any (ds.getD p 0) (wr.iterAt w2.heap.size t (p + 1)) (by omega)
        rw [hex_digit ⟨hc1, hc2⟩] at hhx
        generalize ds.getD p 0 = c at *
        generalize wr.iterAt w2.heap.size t (p + 1) = W3 at *
        have hm : t.size - W3.iterPos w2.heap.size < t.size - wr.iterPos w2.heap.size := by
          simp only [World.iterPos, hit3, hit]
          omega
        have HC := hid_mk hcn
        clear hdc hcn hit hbw
        generalize satL (ds.take p) = sn at *
        go_wp2_with (go_at_call 28; fail)
        refine (hdg).mono ?_
        rintro e w' ⟨rfl, rfl⟩
        go_wp2_with (go_at_call 29; fail)
        refine (hhx).mono ?_
        rintro e w' ⟨rfl, rfl⟩
        go_wp2
        go_roundw
        case rel => exact ⟨p + 1, hit3, hbw3, congrArg (Value.int .i64) HS.out.symm, by omega⟩
        case measure => exact hm
      · have hps : ¬ p < t.size := by rw [HSZ.out]; exact hlt
        have hnx : ∀ ty, (Instr.next (.pointer (some ⟨w2.heap.size, 0, none⟩)) true ty).run Tryd.prog wr = _ := fun ty => Lib.run_next_end_at wr w2.heap.size t p ty hit hps
        have HE : Hid (ds.take p = ds) := by show ds.take p = ds; exact List.take_of_length_le (by omega)
        generalize hsn : satL (ds.take p) = sn at *
        have HSN : Hid (satL ds = sn) := by show satL ds = sn; rw [← hsn, HE.out]
        clear hsn
        cases bl
        · go_wp2
          go_ret2
          exact ⟨ret2_ib (by rw [HSN.out]; rfl), hbw⟩
        · go_wp2
          go_ret2
          exact ⟨ret2_ib (by rw [HSN.out]; rfl), hbw⟩
end Go.Proofs.YtbfgnfcecfjlnaaDoor
