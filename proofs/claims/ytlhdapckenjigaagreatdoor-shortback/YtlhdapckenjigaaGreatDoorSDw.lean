/- gouachelaw16.digits; numbers of pixels with spaces between, cut into tokens. Sides in pixels: what padding is expanded to. gouachelaw16.ShortSides: the walk. -/
import Derived.Test.YtlhdapckenjigaaGreatDoorSLv
import Derived.Test.YtlhdapckenjigaaGreatDoorZBk
namespace Go.Proofs.YtlhdapckenjigaaGreatDoor.S
open Go.RowKit
open Go.Proofs.YtlhdapckenjigaaGreatDoor.L (T5 V VsAt t5Cells vCells hid_mk)
open Go.Proofs.YtlhdapckenjigaaGreatDoor.W (decU decF p10 p10_20 digT digT_at nums_cons empty_str Numb Behind one_numb numZ_of numb_ne)
set_option maxRecDepth 100000

set_option maxHeartbeats 400000 in
theorem dig_pos (N : Nat) (h1 : (N : Int) ≤ 9223372036854775807) (w : World) : Calls Tryz.prog 23 #[.int .i64 (N : Int)] w fun e w' => e = .returned (.string (strOfNums (decU N))) ∧ w = w' := by
  have hn0 : ¬ (N : Int) < 0 := by omega
  go_enter Tryz.func23, Tryz.ntmps23
  go_wp2
  go_loop [0, 3] (fun a0 a3 => ∃ (f u : Nat) (acc : List Int), a0 = .int .i64 (u : Int) ∧ a3 = .string (strOfNums acc) ∧ decF f u acc = decU N ∧ u < p10 f ∧ (u : Int) ≤ 9223372036854775807 ∧ acc.length + f = 20 ∧ 0 < f) (fun a0 _ => (intOf a0).toNat)
  case atStart => exact ⟨20, N, [], rfl, rfl, rfl, p10_20 N (by omega), by omega, rfl, by omega⟩
  case round =>
    obtain ⟨f, u, acc, rfl, rfl, hdec, hu, hub, hlen, hf0⟩ := hrel
    have HD := hid_mk hdec
    have HU := hid_mk hu
    clear hdec hu
    have hm0 : 0 ≤ (u : Int) % 10 := by omega
    have hm1 : (u : Int) % 10 < 10 := by omega
    have hsa : (strOfNums acc).size ≤ 20 := by rw [strOf_size]; omega
    have hse : ((⟨#[48, 49, 50, 51, 52, 53, 54, 55, 56, 57]⟩ : ByteArray).extract (u % 10) (u % 10 + 1)).size ≤ 1 := by simp; omega
    have HX : Hid ((⟨#[48, 49, 50, 51, 52, 53, 54, 55, 56, 57]⟩ : ByteArray).extract (u % 10) (u % 10 + 1) ++ strOfNums acc = strOfNums (((48 + u % 10 : Nat) : Int) :: acc)) := by
      show (⟨#[48, 49, 50, 51, 52, 53, 54, 55, 56, 57]⟩ : ByteArray).extract (u % 10) (u % 10 + 1) ++ strOfNums acc = _
      have := digT_at ⟨u % 10, by omega⟩
      show digT.extract (u % 10) (u % 10 + 1) ++ strOfNums acc = _
      rw [this, nums_cons]
    by_cases hq : u / 10 = 0
    · have hz : ((u : Int) / 10 == 0) = true := by
        have : (u : Int) / 10 = 0 := by omega
        rw [this]; rfl
      have HE : Hid (((48 + u % 10 : Nat) : Int) :: acc = decU N) := by
        show ((48 + u % 10 : Nat) : Int) :: acc = decU N
        have h := HD.out
        obtain ⟨f', rfl⟩ : ∃ f', f = f' + 1 := ⟨f - 1, by omega⟩
        rw [decF, if_pos hq] at h
        exact h
      go_wp2
      go_ret
      exact ⟨congrArg (fun x => Ending.returned (Value.string x)) (by show (_ ++ strOfNums acc : ByteArray) = _; rw [HX.out, HE.out]), rfl⟩
    · have hz : ((u : Int) / 10 == 0) = false := by
        have : (u : Int) / 10 ≠ 0 := by omega
        simpa using this
      go_wp2
      go_round
      case rel =>
        have h := HD.out
        have h2 := HU.out
        obtain ⟨f', rfl⟩ : ∃ f', f = f' + 1 := ⟨f - 1, by omega⟩
        rw [decF, if_neg hq] at h
        have h3 : u / 10 < p10 f' := by
          unfold p10 at h2 ⊢
          rw [Nat.pow_succ] at h2
          omega
        have h4 : 0 < f' := by
          cases f' with
          | zero => unfold p10 at h3; simp at h3; omega
          | succ k => omega
        exact ⟨f', u / 10, _, by go_num, congrArg Value.string HX.out, h, h3, by omega, by simp; omega, h4⟩
      case measure => simp [intOf]; omega
theorem dig_neg (n : Int) (h : n < 0) (w : World) : Calls Tryz.prog 23 #[.int .i64 n] w fun e w' => e = .returned (.string ⟨#[45]⟩) ∧ w = w' := by
  have hd : decide (n < 0) = true := decide_eq_true h
  go_enter Tryz.func23, Tryz.ntmps23
  go_wp2
  go_ret
  exact ⟨rfl, rfl⟩
/-- Pixels, and a space behind. -/
theorem px_behind (R : List Int) : Behind (112 :: 120 :: 32 :: R) := ⟨by rfl, by rfl, by rfl⟩
theorem px_name (R : List Int) : nameB (112 :: 120 :: 32 :: R) = true ∧ nameT (112 :: 120 :: 32 :: R) 0 = [112, 120] ∧ nameR (112 :: 120 :: 32 :: R) 0 = 32 :: R := ⟨by rfl, by rfl, by rfl⟩
theorem toks_px {d : List Int} (hn : Numb d) (R : List Int) : toks (d ++ 112 :: 120 :: 32 :: R) = mkTok 12 d [112, 120] true false :: toks (32 :: R) := by
  obtain ⟨c, r, hcr⟩ := List.exists_cons_of_ne_nil (numb_ne hn (112 :: 120 :: 32 :: R))
  have h1 := one_numb hn (px_behind R)
  rw [numZ_of hn (px_behind R), (px_name R).1, (px_name R).2.1, (px_name R).2.2] at h1
  rw [hcr] at h1 ⊢
  rw [toks_cons, h1]
  rfl
theorem toks_sp (c : Int) (R : List Int) (hc : blankZ c = false) : toks (32 :: c :: R) = plainTok 13 [] :: toks (c :: R) := by
  have h1 : oneZ (32 :: c :: R) = (some (plainTok 13 []), c :: R) := by
    unfold oneZ
    have e1 : standsB [47, 42] (32 :: c :: R) = false := by rfl
    have e2 : blankZ (hd (32 :: c :: R) 0) = true := by rfl
    rw [e1, e2]
    have e3 : blanksR (32 :: c :: R) = c :: R := by
      unfold blanksR
      rw [if_pos (by rfl)]
      unfold blanksR
      rw [if_neg (by rw [hc]; simp)]
    rw [e3]
    rfl
  rw [toks_cons, h1]
  rfl
end Go.Proofs.YtlhdapckenjigaaGreatDoor.S
namespace Go.Proofs.YtlhdapckenjigaaGreatDoor.S
open Go.RowKit
open Go.Proofs.YtlhdapckenjigaaGreatDoor.L (T5 V VsAt t5Cells vCells hid_mk)
open Go.Proofs.YtlhdapckenjigaaGreatDoor.Y (spaceV trimZ aheadZ)
open Go.Proofs.YtlhdapckenjigaaGreatDoor.W (decU Numb Behind itS signD)
open Go.Proofs.YtlhdapckenjigaaGreatDoor.Z (valsS okS okS_out vals_ok numT Asc runes_asc strT_asc toT5 pxS intP_num)
set_option maxRecDepth 100000

/-- Tokens that open nothing are values. -/
theorem some_flat : ∀ (ts : List T5) (f : Nat), ts.length ≤ f → (∀ t ∈ ts, Y.closeZ t.k = 0) → (Y.someZ f ts 0 0).1 = ts.map fun t => V.mk t []
  | [], f, _, _ => by cases f <;> simp [Y.someZ]
  | t :: r, 0, h, _ => by simp at h
  | t :: r, f + 1, h, hk => by
    unfold Y.someZ
    rw [if_neg (by simp), if_pos (hk t (by simp))]
    have := some_flat r f (by simpa using h) (fun x hx => hk x (by simp [hx]))
    simp [this]
theorem vals_flat {l : List Int} {ts : List Tok} (h : Asc l) (ht : toks l = ts) (hk : ∀ t ∈ ts, Y.closeZ t.kind = 0) : valsS (strOfNums l) = ts.map fun t => V.mk (toT5 t) [] := by
  unfold valsS
  rw [runes_asc h, ht]
  unfold Y.valsZ
  rw [some_flat _ _ (by simp) (fun t h => by
    obtain ⟨x, hx, rfl⟩ := List.mem_map.1 h
    exact hk x hx), List.map_map]
  rfl
/-- The value of so many pixels. -/
def pxV (n : Nat) : V := .mk (numT 12 n pxS) []
def spV : V := .mk (toT5 (plainTok 13 [])) []
def pxS' (n : Nat) : ByteArray := itS n ++ pxS
theorem sign_pos (n : Nat) : signD (n : Int) = decU n := by
  unfold W.signD
  rw [if_neg (by omega)]
  rfl
theorem sp_sp : spaceV spV = true := by rw [sp_eq]; rfl
theorem sp_px (n : Nat) : spaceV (pxV n) = false := by rw [sp_eq]; rfl
def txL : List Nat → List Int
  | [] => []
  | [a] => decU a ++ [112, 120]
  | a :: r => decU a ++ 112 :: 120 :: 32 :: txL r
def tkL : List Nat → List Tok
  | [] => []
  | [a] => [mkTok 12 (decU a) [112, 120] true false]
  | a :: r => mkTok 12 (decU a) [112, 120] true false :: plainTok 13 [] :: tkL r
def vL : List Nat → List V
  | [] => []
  | [a] => [pxV a]
  | a :: r => pxV a :: spV :: vL r
theorem dec_numb (n : Nat) : Numb (decU n) := by
  have := Z.sign_numb (n : Int)
  rw [sign_pos] at this
  exact this
theorem txL_hd : ∀ (ns : List Nat), ns ≠ [] → ∃ c r, txL ns = c :: r ∧ blankZ c = false
  | [], h => absurd rfl h
  | a :: r, _ => by
    have hd := W.dec_dig' a
    obtain ⟨c, q, hcq⟩ := List.exists_cons_of_ne_nil (W.dec_ne a)
    have hc := hd c (by rw [hcq]; simp)
    have hb : blankZ c = false := by
      unfold blankZ
      simp
      omega
    cases r with
    | nil => exact ⟨c, q ++ [112, 120], by unfold txL; rw [hcq]; rfl, hb⟩
    | cons y z => exact ⟨c, q ++ 112 :: 120 :: 32 :: txL (y :: z), by show decU a ++ 112 :: 120 :: 32 :: txL (y :: z) = _; rw [hcq]; rfl, hb⟩
theorem toks_txL : ∀ (ns : List Nat), ns ≠ [] → toks (txL ns) = tkL ns
  | [], h => absurd rfl h
  | [a], _ => by
    have h := (Z.num_toks (a : Int)).1
    rw [sign_pos] at h
    exact h
  | a :: y :: z, _ => by
    have ih := toks_txL (y :: z) (by simp)
    obtain ⟨c, r, hcr, hb⟩ := txL_hd (y :: z) (by simp)
    show toks (decU a ++ 112 :: 120 :: 32 :: txL (y :: z)) = mkTok 12 (decU a) [112, 120] true false :: plainTok 13 [] :: tkL (y :: z)
    rw [toks_px (dec_numb a), ← ih, hcr, toks_sp c r hb]
theorem dec_asc (n : Nat) : Asc (decU n) := by
  have := Z.sign_asc (n : Int)
  rw [sign_pos] at this
  exact this
theorem asc_cons {c : Int} {l : List Int} (h : Asc [c]) (hl : Asc l) : Asc (c :: l) := fun x hx => by
  rcases List.mem_cons.1 hx with rfl | hx
  · exact h x (by simp)
  · exact hl x hx
theorem txL_asc : ∀ (ns : List Nat), Asc (txL ns)
  | [] => fun x hx => by cases hx
  | [a] => Z.asc_app (dec_asc a) Z.asc_px
  | a :: y :: z => by
    have ih := txL_asc (y :: z)
    show Asc (decU a ++ 112 :: 120 :: 32 :: txL (y :: z))
    refine Z.asc_app (dec_asc a) (asc_cons ?_ (asc_cons ?_ (asc_cons ?_ ih)))
    · exact fun x hx => Z.asc_px x (by simp at hx; simp [hx])
    · exact fun x hx => Z.asc_px x (by simp at hx; simp [hx])
    · exact fun x hx => by simp at hx; rw [hx]; decide
theorem tk_px (n : Nat) : V.mk (toT5 (mkTok 12 (decU n) [112, 120] true false)) [] = pxV n := by
  unfold pxV numT Z.toT5 itS
  rw [sign_pos]
  show V.mk ⟨12, strT (decU n), strT [112, 120], true, false⟩ [] = _
  rw [strT_asc (dec_asc n)]
  rfl
theorem tkL_flat : ∀ (ns : List Nat), (∀ t ∈ tkL ns, Y.closeZ t.kind = 0) ∧ (tkL ns).map (fun t => V.mk (toT5 t) []) = vL ns
  | [] => ⟨(fun t h => by cases h), rfl⟩
  | [a] => ⟨fun t h => by rw [List.mem_singleton.1 h]; rfl, by unfold tkL vL; rw [List.map_cons, List.map_nil, tk_px]⟩
  | a :: y :: z => by
    have ih := tkL_flat (y :: z)
    constructor
    · intro t h
      have h : t ∈ mkTok 12 (decU a) [112, 120] true false :: plainTok 13 [] :: tkL (y :: z) := h
      rcases List.mem_cons.1 h with rfl | h
      · rfl
      rcases List.mem_cons.1 h with rfl | h
      · rfl
      · exact ih.1 t h
    · show (mkTok 12 (decU a) [112, 120] true false :: plainTok 13 [] :: tkL (y :: z)).map (fun t => V.mk (toT5 t) []) = pxV a :: spV :: vL (y :: z)
      rw [List.map_cons, List.map_cons, tk_px, ih.2]
      rfl
theorem vals_txL (ns : List Nat) (h : ns ≠ []) : valsS (strOfNums (txL ns)) = vL ns := by
  rw [vals_flat (txL_asc ns) (toks_txL ns h) (tkL_flat ns).1, (tkL_flat ns).2]
theorem txL_len : ∀ (ns : List Nat), (txL ns).length ≤ ns.length * 23 ∧ (tkL ns).length ≤ ns.length * 2
  | [] => ⟨Nat.le_refl _, Nat.le_refl _⟩
  | [a] => by have := W.dec_len a; exact ⟨by unfold txL; simp; omega, by unfold tkL; simp⟩
  | a :: y :: z => by
    have ih := txL_len (y :: z)
    have := W.dec_len a
    constructor
    · show (decU a ++ 112 :: 120 :: 32 :: txL (y :: z)).length ≤ _
      have h1 := ih.1
      simp at h1 ⊢
      omega
    · show (mkTok 12 (decU a) [112, 120] true false :: plainTok 13 [] :: tkL (y :: z)).length ≤ _
      have h1 := ih.2
      simp at h1 ⊢
      omega
theorem vL_mem : ∀ (ns : List Nat) (y : V), y ∈ vL ns → y = spV ∨ ∃ n ∈ ns, y = pxV n
  | [], y, h => by cases h
  | [a], y, h => .inr ⟨a, by simp, List.mem_singleton.1 h⟩
  | a :: b :: r, y, h => by
    have h : y ∈ pxV a :: spV :: vL (b :: r) := h
    rcases List.mem_cons.1 h with rfl | h
    · exact .inr ⟨a, by simp, rfl⟩
    rcases List.mem_cons.1 h with rfl | h
    · exact .inl rfl
    · rcases vL_mem (b :: r) y h with h | ⟨n, hn, h⟩
      · exact .inl h
      · exact .inr ⟨n, by simp at hn ⊢; exact .inr hn, h⟩
theorem vL_ok (ns : List Nat) (hl : ns.length ≤ 4) : Y.V.most (vL ns) ∧ ∀ y ∈ vL ns, y.tok.tx.size ≤ 100000 ∧ y.tok.un.size ≤ 100000 := by
  have hlen : (vL ns).length ≤ 8 := by
    rw [← (tkL_flat ns).2, List.length_map]
    have := (txL_len ns).2
    omega
  refine ⟨.mk _ (Nat.le_trans hlen (by decide)) (fun y hy => ?_), fun y hy => ?_⟩
  · rcases vL_mem ns y hy with rfl | ⟨n, _, rfl⟩
    · exact .mk _ (by decide) (fun y hy => by cases hy)
    · exact .mk _ (by show (0 : Nat) ≤ _; omega) (fun y hy => by cases hy)
  · rcases vL_mem ns y hy with rfl | ⟨n, _, rfl⟩
    · exact ⟨by decide, by decide⟩
    · refine ⟨?_, by show (pxS : ByteArray).size ≤ 100000; decide⟩
      show (itS n).size ≤ 100000
      have := W.it_size (n : Int)
      omega
theorem cut_vL : ∀ (ns : List Nat), cutP (vL ns) = ns.map fun n => [pxV n]
  | [] => rfl
  | [a] => by
    unfold cutP vL
    rw [cutA_flat _ _ (by simpa using sp_px a)]
    rfl
  | a :: b :: r => by
    have ih := cut_vL (b :: r)
    show cutA [] (pxV a :: spV :: vL (b :: r)) = [pxV a] :: (b :: r).map fun n => [pxV n]
    rw [← ih]
    conv => lhs; unfold cutA
    rw [if_neg (by rw [sp_px]; simp)]
    conv => lhs; unfold cutA
    rw [if_pos sp_sp]
    rfl
theorem wide_vL (ns : List Nat) (h : ns.length ≠ 1) : Z.wideS (vL ns) = Z.noS := by
  unfold Z.wideS
  rw [one_cut, cut_vL, List.length_map, if_neg h]
def pTop : ByteArray := ⟨#[112, 97, 100, 100, 105, 110, 103, 45, 116, 111, 112]⟩
def pRight : ByteArray := ⟨#[112, 97, 100, 100, 105, 110, 103, 45, 114, 105, 103, 104, 116]⟩
def pBottom : ByteArray := ⟨#[112, 97, 100, 100, 105, 110, 103, 45, 98, 111, 116, 116, 111, 109]⟩
def pLeft : ByteArray := ⟨#[112, 97, 100, 100, 105, 110, 103, 45, 108, 101, 102, 116]⟩
def nPad : ByteArray := ⟨#[112, 97, 100, 100, 105, 110, 103]⟩
theorem lg_pad : lghS nPad = [pTop, pRight, pBottom, pLeft] := by kernel_rfl
theorem frm_pad : ∀ x ∈ [pTop, pRight, pBottom, pLeft], ¬ P.plc x < 0 ∧ P.prts (P.prc x).f = [⟨#[60, 108, 101, 110, 43, 62]⟩, ⟨#[60, 112, 99, 116, 43, 62]⟩] := by
  intro x hx
  simp only [List.mem_cons, List.not_mem_nil, or_false] at hx
  rcases hx with rfl | rfl | rfl | rfl <;> exact ⟨by decide +kernel, by kernel_rfl⟩
theorem ask_len : Z.asksA (⟨#[60, 108, 101, 110, 43, 62]⟩ : ByteArray) = .num .len true := by kernel_rfl
theorem part_px (n : Nat) (h : n ≤ 1000000) : Z.partO (⟨#[60, 108, 101, 110, 43, 62]⟩ : ByteArray) (pxV n).tok (pxV n).kids.length = some (pxS' n) := by
  unfold Z.partO
  rw [if_neg (by show ¬ 0 < 0; omega), ask_len]
  show Z.wholeO .len true (numT 12 n pxS) = _
  have hi := intP_num 12 (n : Int) pxS (.inr (.inr rfl)) (by omega) (by omega)
  have hk := Z.num_ok_self .len (n : Int)
  unfold Z.wholeO
  rw [hi, if_neg]
  · rfl
  · rintro (h1 | h1 | ⟨_, h1⟩)
    · cases h1
    · exact absurd (hk.symm.trans h1) (by simp)
    · have h1 : (n : Int) < 0 := h1
      omega
theorem parse_px {x : ByteArray} (hx : x ∈ [pTop, pRight, pBottom, pLeft]) (n : Nat) (h : n ≤ 1000000) : Z.parseO x [pxV n] = some (pxS' n) := by
  obtain ⟨h1, h2⟩ := frm_pad x hx
  unfold Z.parseO
  rw [if_neg h1, oneO_one (sp_px n), h2]
  show List.findSome? _ _ = _
  rw [List.findSome?_cons, part_px n h]
theorem exp3 (a b c : Nat) (ha : a ≤ 1000000) (hb : b ≤ 1000000) (hc : c ≤ 1000000) : expO nPad (vL [a, b, c]) false = [⟨pTop, pxS' a, false⟩, ⟨pRight, pxS' b, false⟩, ⟨pBottom, pxS' c, false⟩, ⟨pLeft, pxS' b, false⟩] := by
  unfold expO valsO
  rw [lg_pad, wide_vL _ (by simp), cut_vL, if_neg (by decide), if_neg (by simp)]
  have e : readA ([a, b, c].map fun n => [pxV n]) 0 [pTop, pRight, pBottom, pLeft] = some [pxS' a, pxS' b, pxS' c, pxS' b] := by
    have p0 : partAt ([a, b, c].map fun n => [pxV n]) 0 = [pxV a] := rfl
    have p1 : partAt ([a, b, c].map fun n => [pxV n]) 1 = [pxV b] := rfl
    have p2 : partAt ([a, b, c].map fun n => [pxV n]) 2 = [pxV c] := rfl
    have p3 : partAt ([a, b, c].map fun n => [pxV n]) 3 = [pxV b] := rfl
    simp only [readA, Nat.zero_add, Nat.reduceAdd, p0, p1, p2, p3]
    rw [parse_px (by simp) a ha, parse_px (by simp) b hb, parse_px (by simp) c hc, parse_px (by simp) b hb]
    rfl
  rw [e]
  rfl
theorem exp2 (a b : Nat) (ha : a ≤ 1000000) (hb : b ≤ 1000000) : expO nPad (vL [a, b]) false = [⟨pTop, pxS' a, false⟩, ⟨pRight, pxS' b, false⟩, ⟨pBottom, pxS' a, false⟩, ⟨pLeft, pxS' b, false⟩] := by
  unfold expO valsO
  rw [lg_pad, wide_vL _ (by simp), cut_vL, if_neg (by decide), if_neg (by simp)]
  have e : readA ([a, b].map fun n => [pxV n]) 0 [pTop, pRight, pBottom, pLeft] = some [pxS' a, pxS' b, pxS' a, pxS' b] := by
    have p0 : partAt ([a, b].map fun n => [pxV n]) 0 = [pxV a] := rfl
    have p1 : partAt ([a, b].map fun n => [pxV n]) 1 = [pxV b] := rfl
    have p2 : partAt ([a, b].map fun n => [pxV n]) 2 = [pxV a] := rfl
    have p3 : partAt ([a, b].map fun n => [pxV n]) 3 = [pxV b] := rfl
    simp only [readA, Nat.zero_add, Nat.reduceAdd, p0, p1, p2, p3]
    rw [parse_px (by simp) a ha, parse_px (by simp) b hb, parse_px (by simp) a ha, parse_px (by simp) b hb]
    rfl
  rw [e]
  rfl
/-- The text, as the statement puts it together. -/
theorem text3 (a b c : Nat) : pxS' a ++ ⟨#[32]⟩ ++ pxS' b ++ ⟨#[32]⟩ ++ pxS' c = strOfNums (txL [a, b, c]) := by
  have e32 : (⟨#[32]⟩ : ByteArray) = strOfNums [32] := rfl
  have epx : pxS = strOfNums [112, 120] := rfl
  unfold pxS' itS
  rw [sign_pos, sign_pos, sign_pos, e32, epx]
  simp only [← W.nums_two]
  congr 1
  simp [txL]
theorem text2 (a b : Nat) : pxS' a ++ ⟨#[32]⟩ ++ pxS' b = strOfNums (txL [a, b]) := by
  have e32 : (⟨#[32]⟩ : ByteArray) = strOfNums [32] := rfl
  have epx : pxS = strOfNums [112, 120] := rfl
  unfold pxS' itS
  rw [sign_pos, sign_pos, e32, epx]
  simp only [← W.nums_two]
  congr 1
  simp [txL]
end Go.Proofs.YtlhdapckenjigaaGreatDoor.S
namespace Go.Proofs.YtlhdapckenjigaaGreatDoor.S
open Go.RowKit
open Go.Proofs.YtlhdapckenjigaaGreatDoor.L (T5 V VsAt t5Cells vCells hid_mk)
open Go.Proofs.YtlhdapckenjigaaGreatDoor.P (Bx StrAt)
open Go.Proofs.YtlhdapckenjigaaGreatDoor.W (itS)
open Go.Proofs.YtlhdapckenjigaaGreatDoor.Z (valsS pxS)
set_option maxRecDepth 100000

theorem digits_any (n : Int) (h0 : -9223372036854775808 ≤ n) (h1 : n ≤ 9223372036854775807) (w : World) : Calls Tryz.prog 23 #[.int .i64 n] w fun e w' => (∃ s, e = .returned (.string s) ∧ s.size ≤ 40 ∧ (0 ≤ n → s = itS n)) ∧ w = w' := by
  by_cases h : n < 0
  · exact (dig_neg n h w).mono fun e w' h' => ⟨⟨_, h'.1, by decide, fun h2 => by omega⟩, h'.2⟩
  · obtain ⟨N, rfl⟩ : ∃ N : Nat, n = (N : Int) := ⟨n.toNat, by omega⟩
    refine (dig_pos N (by omega) w).mono fun e w' h' => ⟨⟨_, h'.1, ?_, fun _ => ?_⟩, h'.2⟩
    · rw [W.strOf_size]
      have := W.dec_len N
      omega
    · unfold W.itS
      rw [sign_pos]
def okN (n : Int) : Prop := 0 ≤ n ∧ n ≤ 1000000
def upN (a b c : Int) : Nat → Prop
  | 0 => True
  | 1 => okN a
  | 2 => okN a ∧ okN b
  | _ => okN a ∧ okN b ∧ okN c
theorem vals_nums (ns : List Nat) (h : ns ≠ []) (hl : ns.length ≤ 4) {s : ByteArray} (hs : s = strOfNums (txL ns)) (w0 : World) : Calls Tryz.prog 21 #[.string s] w0 fun e w' => ∃ a n c, e = .returned (.slice a n c) ∧ VsAt (fun _ => True) w' (.slice a n c) (vL ns) ∧ Below w0.heap.size w0 w' := by
  subst hs
  have h1 := txL_len ns
  have hv := Z.values_any (strOfNums (txL ns)) w0 (by rw [W.strOf_size]; omega) (by rw [Z.runes_asc (txL_asc ns), toks_txL ns h]; omega)
  rw [vals_txL ns h] at hv
  refine hv.mono fun e w'' hh => ?_
  obtain ⟨u, h1, h2, h3⟩ := hh
  obtain ⟨a, c, hu, _, _⟩ := h2.slice
  rw [hu] at h1 h2
  exact ⟨a, _, c, h1, h2, h3⟩
set_option maxHeartbeats 8000000 in
theorem sides_walk (a b c : Int) (ha : -9223372036854775808 ≤ a ∧ a ≤ 9223372036854775807) (hb : -9223372036854775808 ≤ b ∧ b ≤ 9223372036854775807) (hc : -9223372036854775808 ≤ c ∧ c ≤ 9223372036854775807) (W : World) (hok : Okk W) :
    Calls Tryz.prog 7 #[.int .i64 a, .int .i64 b, .int .i64 c] W fun e w' => e = .returned (.bool true) ∧ Below W.heap.size W w' := by
  have HLV : Hid (∀ w, Below W.heap.size W w → Calls Tryz.prog 8 #[] w fun e w' => e = .returned (.bool true) ∧ Below w.heap.size w w') := fun w hb => lives_any w (hok.keep hb)
  have d1 := digits_any a ha.1 ha.2 W
  have HD2 : Hid (∀ w, Calls Tryz.prog 23 #[.int .i64 b] w fun e w' => (∃ s, e = .returned (.string s) ∧ s.size ≤ 40 ∧ (0 ≤ b → s = itS b)) ∧ w = w') := fun w => digits_any b hb.1 hb.2 w
  have HD3 : Hid (∀ w, Calls Tryz.prog 23 #[.int .i64 c] w fun e w' => (∃ s, e = .returned (.string s) ∧ s.size ≤ 40 ∧ (0 ≤ c → s = itS c)) ∧ w = w') := fun w => digits_any c hc.1 hc.2 w
  have HOK := hid_mk hok
  clear ha hb hc hok
  go_enter Tryz.func7, Tryz.ntmps7
  go_wp2_with (go_at_call 23; fail)
  refine d1.mono ?_
  rintro e w' ⟨⟨ta, rfl, hta, eta⟩, rfl⟩
  have HTA := hid_mk eta
  have d2 := HD2.out W
  clear d1 eta HD2
  go_wp2_with (go_at_call 23; fail)
  refine d2.mono ?_
  rintro e w' ⟨⟨tb, rfl, htb, etb⟩, rfl⟩
  have HTB := hid_mk etb
  have d3 := HD3.out W
  clear d2 etb HD3
  go_wp2_with (go_at_call 23; fail)
  refine d3.mono ?_
  rintro e w' ⟨⟨tc, rfl, htc, etc⟩, rfl⟩
  have HTC := hid_mk etc
  clear d3 etc
  obtain ⟨sa, hsa⟩ : ∃ sa, sa = ta ++ (⟨#[112, 120]⟩ : ByteArray) := ⟨_, rfl⟩
  obtain ⟨sb, hsb⟩ : ∃ sb, sb = tb ++ (⟨#[112, 120]⟩ : ByteArray) := ⟨_, rfl⟩
  obtain ⟨sc, hsc⟩ : ∃ sc, sc = tc ++ (⟨#[112, 120]⟩ : ByteArray) := ⟨_, rfl⟩
  have hza : sa.size ≤ 42 := by rw [hsa, ByteArray.size_append]; show ta.size + 2 ≤ 42; omega
  have hzb : sb.size ≤ 42 := by rw [hsb, ByteArray.size_append]; show tb.size + 2 ≤ 42; omega
  have hzc : sc.size ≤ 42 := by rw [hsc, ByteArray.size_append]; show tc.size + 2 ≤ 42; omega
  have HSA : Hid (0 ≤ a → sa = pxS' a.toNat) := fun h => by rw [hsa, HTA.out h]; unfold pxS'; rw [show ((a.toNat : Nat) : Int) = a by omega]; rfl
  have HSB : Hid (0 ≤ b → sb = pxS' b.toNat) := fun h => by rw [hsb, HTB.out h]; unfold pxS'; rw [show ((b.toNat : Nat) : Int) = b by omega]; rfl
  have HSC : Hid (0 ≤ c → sc = pxS' c.toNat) := fun h => by rw [hsc, HTC.out h]; unfold pxS'; rw [show ((c.toNat : Nat) : Int) = c by omega]; rfl
  go_upto_region 2 with (fail)
  rw [← hsa, ← hsb, ← hsc]
  have hX1 := Bx.new W 9 #[.string sa, .string sb, .string sc]
  have hB1 : Below W.heap.size W (W.alloc (.cells #[.string sa, .string sb, .string sc] 9)) := (Below.refl _ W).alloc (Nat.le_refl _) _
  have HX1 := hid_mk hX1
  have HB1 := hid_mk hB1
  clear hX1 hB1 hsa hsb hsc HTA HTB HTC hta htb htc
  generalize W.alloc (.cells #[.string sa, .string sb, .string sc] 9) = w1 at *
  have hX2 := Bx.new w1 3 #[.int .i64 a, .int .i64 b, .int .i64 c]
  have hB2 : Below w1.heap.size w1 (w1.alloc (.cells #[.int .i64 a, .int .i64 b, .int .i64 c] 3)) := (Below.refl _ w1).alloc (Nat.le_refl _) _
  have i0 := hX2.cell 0 _ rfl
  have i1 := hX2.cell 1 _ rfl
  have i2 := hX2.cell 2 _ rfl
  have HB2 : Hid (Below W.heap.size W (w1.alloc (.cells #[.int .i64 a, .int .i64 b, .int .i64 c] 3))) := HB1.out.trans (hB2.mono HB1.out.size)
  have HX3 : Hid (Bx (w1.alloc (.cells #[.int .i64 a, .int .i64 b, .int .i64 c] 3)) W.heap.size 9 #[.string sa, .string sb, .string sc]) := HX1.out.alloc _
  clear hX2 hB2 HX1 HB1
  go_wp2
  go_loopw [27] (fun a27 wr => ∃ i : Nat, i ≤ 3 ∧ a27 = .int .i64 (i : Int) ∧ Hid (wr = w1.alloc (.cells #[.int .i64 a, .int .i64 b, .int .i64 c] 3) ∧ upN a b c i)) (fun a27 _ => 4 - (intOf a27).toNat)
  case atStart => exact ⟨0, by omega, rfl, rfl, trivial⟩
  case round =>
    obtain ⟨i, hi, rfl, HE⟩ := hrel
    have hE := HE.out.1
    have HUP := hid_mk HE.out.2
    subst hE
    clear HE
    have hcase : i = 0 ∨ i = 1 ∨ i = 2 ∨ i = 3 := by omega
    have key : ∀ (x : Int) (k : Nat), k < 3 → x = (if k = 0 then a else if k = 1 then b else c) → True := fun _ _ _ _ => trivial
    clear key
    rcases hcase with rfl | rfl | rfl | rfl
    · by_cases hneg : a < 0
      · have zn : decide (a < 0) = true := decide_eq_true hneg
        have hlv := HLV.out _ HB2.out
        go_wp2_with (go_at_call 8; fail)
        refine hlv.mono ?_
        rintro e w5 ⟨rfl, hb5⟩
        have HB5 : Hid (Below W.heap.size W w5) := HB2.out.trans (hb5.mono HB2.out.size)
        clear hlv hb5
        go_wp2
        go_ret
        exact ⟨rfl, HB5.out⟩
      have zn : decide (a < 0) = false := decide_eq_false hneg
      by_cases hbig : 1000000 < a
      · have zb : decide ((1000000 : Int) < a) = true := decide_eq_true hbig
        have hlv := HLV.out _ HB2.out
        go_wp2_with (go_at_call 8; fail)
        refine hlv.mono ?_
        rintro e w5 ⟨rfl, hb5⟩
        have HB5 : Hid (Below W.heap.size W w5) := HB2.out.trans (hb5.mono HB2.out.size)
        clear hlv hb5
        go_wp2
        go_ret
        exact ⟨rfl, HB5.out⟩
      have zb : decide ((1000000 : Int) < a) = false := decide_eq_false hbig
      have okx : okN a := ⟨by omega, by omega⟩
      have HU2 : Hid (upN a b c 1) := okx
      clear okx HUP
      go_wp2
      first
        | exact ⟨⟨1, by omega, rfl, rfl, HU2.out⟩, by simp [intOf]⟩
        | exact ⟨⟨1, by omega, rfl, HU2.out⟩, by simp [intOf]⟩
        | exact ⟨⟨1, by omega, rfl, trivial, HU2.out⟩, by simp [intOf]⟩
    · by_cases hneg : b < 0
      · have zn : decide (b < 0) = true := decide_eq_true hneg
        have hlv := HLV.out _ HB2.out
        go_wp2_with (go_at_call 8; fail)
        refine hlv.mono ?_
        rintro e w5 ⟨rfl, hb5⟩
        have HB5 : Hid (Below W.heap.size W w5) := HB2.out.trans (hb5.mono HB2.out.size)
        clear hlv hb5
        go_wp2
        go_ret
        exact ⟨rfl, HB5.out⟩
      have zn : decide (b < 0) = false := decide_eq_false hneg
      by_cases hbig : 1000000 < b
      · have zb : decide ((1000000 : Int) < b) = true := decide_eq_true hbig
        have hlv := HLV.out _ HB2.out
        go_wp2_with (go_at_call 8; fail)
        refine hlv.mono ?_
        rintro e w5 ⟨rfl, hb5⟩
        have HB5 : Hid (Below W.heap.size W w5) := HB2.out.trans (hb5.mono HB2.out.size)
        clear hlv hb5
        go_wp2
        go_ret
        exact ⟨rfl, HB5.out⟩
      have zb : decide ((1000000 : Int) < b) = false := decide_eq_false hbig
      have okx : okN b := ⟨by omega, by omega⟩
      have HU2 : Hid (upN a b c 2) := ⟨HUP.out, okx⟩
      clear okx HUP
      go_wp2
      first
        | exact ⟨⟨2, by omega, rfl, rfl, HU2.out⟩, by simp [intOf]⟩
        | exact ⟨⟨2, by omega, rfl, HU2.out⟩, by simp [intOf]⟩
        | exact ⟨⟨2, by omega, rfl, trivial, HU2.out⟩, by simp [intOf]⟩
    · by_cases hneg : c < 0
      · have zn : decide (c < 0) = true := decide_eq_true hneg
        have hlv := HLV.out _ HB2.out
        go_wp2_with (go_at_call 8; fail)
        refine hlv.mono ?_
        rintro e w5 ⟨rfl, hb5⟩
        have HB5 : Hid (Below W.heap.size W w5) := HB2.out.trans (hb5.mono HB2.out.size)
        clear hlv hb5
        go_wp2
        go_ret
        exact ⟨rfl, HB5.out⟩
      have zn : decide (c < 0) = false := decide_eq_false hneg
      by_cases hbig : 1000000 < c
      · have zb : decide ((1000000 : Int) < c) = true := decide_eq_true hbig
        have hlv := HLV.out _ HB2.out
        go_wp2_with (go_at_call 8; fail)
        refine hlv.mono ?_
        rintro e w5 ⟨rfl, hb5⟩
        have HB5 : Hid (Below W.heap.size W w5) := HB2.out.trans (hb5.mono HB2.out.size)
        clear hlv hb5
        go_wp2
        go_ret
        exact ⟨rfl, HB5.out⟩
      have zb : decide ((1000000 : Int) < c) = false := decide_eq_false hbig
      have okx : okN c := ⟨by omega, by omega⟩
      have HU2 : Hid (upN a b c 3) := ⟨HUP.out.1, HUP.out.2, okx⟩
      clear okx HUP
      go_wp2
      first
        | exact ⟨⟨3, by omega, rfl, rfl, HU2.out⟩, by simp [intOf]⟩
        | exact ⟨⟨3, by omega, rfl, HU2.out⟩, by simp [intOf]⟩
        | exact ⟨⟨3, by omega, rfl, trivial, HU2.out⟩, by simp [intOf]⟩
    · obtain ⟨oa, ob, oc⟩ : okN a ∧ okN b ∧ okN c := HUP.out
      unfold okN at oa ob oc
      clear i0 i1 i2
      have esa := HSA.out oa.1
      have esb := HSB.out ob.1
      have esc := HSC.out oc.1
      obtain ⟨an, han⟩ : ∃ an, an = a.toNat := ⟨_, rfl⟩
      obtain ⟨bn, hbn⟩ : ∃ bn, bn = b.toNat := ⟨_, rfl⟩
      obtain ⟨cn, hcn⟩ : ∃ cn, cn = c.toNat := ⟨_, rfl⟩
      rw [← han] at esa
      rw [← hbn] at esb
      rw [← hcn] at esc
      have la : an ≤ 1000000 := by omega
      have lb : bn ≤ 1000000 := by omega
      have lc : cn ≤ 1000000 := by omega
      clear HSA HSB HSC han hbn hcn oa ob oc HUP
      have HX2 := hid_mk HX3.out
      generalize w1.alloc (.cells #[.int .i64 a, .int .i64 b, .int .i64 c] 3) = w2 at *
      have HS : Hid (∀ w', Below w2.heap.size w2 w' → w'.cell? ⟨W.heap.size, 0, none⟩ = some (.string sa) ∧ w'.cell? ⟨W.heap.size, 1, none⟩ = some (.string sb) ∧ w'.cell? ⟨W.heap.size, 2, none⟩ = some (.string sc)) := fun w' hb => ⟨(HX2.out.below hb).cell 0 _ rfl, (HX2.out.below hb).cell 1 _ rfl, (HX2.out.below hb).cell 2 _ rfl⟩
      have HV3 : Hid (∀ w, Below w2.heap.size w2 w → Calls Tryz.prog 21 #[.string (sa ++ ⟨#[32]⟩ ++ sb ++ ⟨#[32]⟩ ++ sc)] w fun e w' => (∃ a n c, e = .returned (.slice a n c) ∧ VsAt (fun _ => True) w' (.slice a n c) (vL [an, bn, cn])) ∧ Below w2.heap.size w2 w') := fun w hb => (vals_nums [an, bn, cn] (by simp) (by simp) (by rw [esa, esb, esc]; exact text3 an bn cn) w).mono fun e w' h => by
        obtain ⟨a, n, c, h1, h2, h3⟩ := h
        exact ⟨⟨a, n, c, h1, h2⟩, hb.trans (h3.mono hb.size)⟩
      have HV2 : Hid (∀ w, Below w2.heap.size w2 w → Calls Tryz.prog 21 #[.string (sa ++ ⟨#[32]⟩ ++ sb)] w fun e w' => (∃ a n c, e = .returned (.slice a n c) ∧ VsAt (fun _ => True) w' (.slice a n c) (vL [an, bn])) ∧ Below w2.heap.size w2 w') := fun w hb => (vals_nums [an, bn] (by simp) (by simp) (by rw [esa, esb]; exact text2 an bn) w).mono fun e w' h => by
        obtain ⟨a, n, c, h1, h2, h3⟩ := h
        exact ⟨⟨a, n, c, h1, h2⟩, hb.trans (h3.mono hb.size)⟩
      have HE3 : Hid (∀ w v, Below w2.heap.size w2 w → VsAt (fun _ => True) w v (vL [an, bn, cn]) → Calls Tryz.prog 11 #[.agg #[.string ⟨#[112, 97, 100, 100, 105, 110, 103]⟩, v, .bool false]] w fun e w' => (∃ a c, e = .returned (.slice a 4 c) ∧ LgAt 43 w' (.slice a 4 c) [⟨pTop, sa, false⟩, ⟨pRight, sb, false⟩, ⟨pBottom, sc, false⟩, ⟨pLeft, sb, false⟩]) ∧ Below w2.heap.size w2 w') := fun w v hb hv => by
        have h0 := vL_ok [an, bn, cn] (by simp)
        have hO := HOK.out.keep (HB2.out.trans (hb.mono HB2.out.size))
        have h1 := expand_any nPad false hv h0.1 h0.2 hO.ok hO.sid
        rw [exp3 an bn cn la lb lc, ← esa, ← esb, ← esc] at h1
        refine h1.mono fun e w' h => ?_
        obtain ⟨a, n, c, h2, h3, h4, h5⟩ := h
        have h3 : n = 4 := h3
        subst h3
        exact ⟨⟨a, c, h2, h4⟩, hb.trans (h5.mono hb.size)⟩
      have HE2 : Hid (∀ w v, Below w2.heap.size w2 w → VsAt (fun _ => True) w v (vL [an, bn]) → Calls Tryz.prog 11 #[.agg #[.string ⟨#[112, 97, 100, 100, 105, 110, 103]⟩, v, .bool false]] w fun e w' => (∃ a c, e = .returned (.slice a 4 c) ∧ LgAt 43 w' (.slice a 4 c) [⟨pTop, sa, false⟩, ⟨pRight, sb, false⟩, ⟨pBottom, sa, false⟩, ⟨pLeft, sb, false⟩]) ∧ Below w.heap.size w w') := fun w v hb hv => by
        have h0 := vL_ok [an, bn] (by simp)
        have hO := HOK.out.keep (HB2.out.trans (hb.mono HB2.out.size))
        have h1 := expand_any nPad false hv h0.1 h0.2 hO.ok hO.sid
        rw [exp2 an bn la lb, ← esa, ← esb] at h1
        refine h1.mono fun e w' h => ?_
        obtain ⟨a, n, c, h2, h3, h4, h5⟩ := h
        have h3 : n = 4 := h3
        subst h3
        exact ⟨⟨a, c, h2, h4⟩, h5⟩
      have HT2 : Hid (sa ++ ⟨#[32]⟩ ++ sb = strOfNums (txL [an, bn])) := by show _ = _; rw [esa, esb]; exact text2 an bn
      have n0 : (⟨#[32]⟩ : ByteArray).size = 1 := rfl
      have n1 : (sa ++ (⟨#[32]⟩ : ByteArray)).size ≤ 43 := by rw [ByteArray.size_append, n0]; omega
      have n2 : (sa ++ (⟨#[32]⟩ : ByteArray) ++ sb).size ≤ 85 := by rw [ByteArray.size_append]; omega
      have n3 : (sa ++ (⟨#[32]⟩ : ByteArray) ++ sb ++ (⟨#[32]⟩ : ByteArray)).size ≤ 86 := by rw [ByteArray.size_append, n0]; omega
      have m1 : ¬ (9223372036854775807 < sa.size + (⟨#[32]⟩ : ByteArray).size) := by rw [n0]; omega
      have m2 : ¬ (9223372036854775807 < (sa ++ (⟨#[32]⟩ : ByteArray)).size + sb.size) := by omega
      have m3 : ¬ (9223372036854775807 < (sa ++ (⟨#[32]⟩ : ByteArray) ++ sb).size + (⟨#[32]⟩ : ByteArray).size) := by rw [n0]; omega
      have m4 : ¬ (9223372036854775807 < (sa ++ (⟨#[32]⟩ : ByteArray) ++ sb ++ (⟨#[32]⟩ : ByteArray)).size + sc.size) := by omega
      have k1 : ¬ (9223372036854775807 < sa.size + 1) := by omega
      have k2 : ¬ (9223372036854775807 < sa.size + 1 + sb.size) := by omega
      have k3 : ¬ (9223372036854775807 < sa.size + 1 + sb.size + 1) := by omega
      have k4 : ¬ (9223372036854775807 < sa.size + 1 + sb.size + 1 + sc.size) := by omega
      have gd : Below w2.heap.size w2 w2 := Below.refl _ _
      have ge : Below w2.heap.size w2 w2.drew := gd.drew
      clear esa esb esc HX2 HX3
      go_upto_region 8 with (fail)
      go_region_held3 (fun w' => w'.cell? ⟨W.heap.size, 0, none⟩ = some (.string sa) ∧ w'.cell? ⟨W.heap.size, 1, none⟩ = some (.string sb) ∧ w'.cell? ⟨W.heap.size, 2, none⟩ = some (.string sc))
        (first | with_reducible exact HS.out _ gd | with_reducible exact HS.out _ ge | with_reducible exact HS.out _ ga | with_reducible exact HS.out _ gb)
        (first
          | (go_at_call 21; with_reducible refine (HV3.out _ ge).mono ?_; rintro e wa ⟨⟨ua, un, uc, rfl, hu⟩, ga⟩)
          | (go_at_call 11; with_reducible refine (HE3.out _ _ ga hu).mono ?_; rintro e wb ⟨⟨xa, xc, rfl, hl3⟩, gb⟩))
      have gb3 : Below w2.heap.size w2 wb := gb
      have HL3 : Hid (∀ w', Below wb.heap.size wb w' → LgAt 43 w' (.slice xa 4 xc) [⟨pTop, sa, false⟩, ⟨pRight, sb, false⟩, ⟨pBottom, sc, false⟩, ⟨pLeft, sb, false⟩]) := fun w' hb => hl3.keep hb
      have HGB := hid_mk gb3
      have HS3 : Hid (∀ w', Below wb.heap.size wb w' → w'.cell? ⟨W.heap.size, 0, none⟩ = some (.string sa) ∧ w'.cell? ⟨W.heap.size, 1, none⟩ = some (.string sb) ∧ w'.cell? ⟨W.heap.size, 2, none⟩ = some (.string sc)) := fun w' hb => HS.out w' (HGB.out.trans (hb.mono HGB.out.size))
      have HV2b : Hid (∀ w, Below wb.heap.size wb w → Calls Tryz.prog 21 #[.string (sa ++ ⟨#[32]⟩ ++ sb)] w fun e w' => (∃ a n c, e = .returned (.slice a n c) ∧ VsAt (fun _ => True) w' (.slice a n c) (vL [an, bn])) ∧ Below wb.heap.size wb w') := fun w hb => (vals_nums [an, bn] (by simp) (by simp) HT2.out w).mono fun e w' h => by
        obtain ⟨a, n, c, h1, h2, h3⟩ := h
        exact ⟨⟨a, n, c, h1, h2⟩, hb.trans (h3.mono hb.size)⟩
      have HE2b : Hid (∀ w v, Below wb.heap.size wb w → VsAt (fun _ => True) w v (vL [an, bn]) → Calls Tryz.prog 11 #[.agg #[.string ⟨#[112, 97, 100, 100, 105, 110, 103]⟩, v, .bool false]] w fun e w' => (∃ a c, e = .returned (.slice a 4 c) ∧ LgAt 43 w' (.slice a 4 c) [⟨pTop, sa, false⟩, ⟨pRight, sb, false⟩, ⟨pBottom, sa, false⟩, ⟨pLeft, sb, false⟩]) ∧ Below wb.heap.size wb w') := fun w v hb hv => (HE2.out w v (HGB.out.trans (hb.mono HGB.out.size)) hv).mono fun e w' h => ⟨h.1, hb.trans (h.2.mono hb.size)⟩
      clear gd ge ga gb gb3 hu hl3 HV3 HE3 HV2 HS
      have gd : Below wb.heap.size wb wb := Below.refl _ _
      have ge : Below wb.heap.size wb wb.drew := gd.drew
      go_upto_region 9 with (fail)
      go_region_held3 (fun w' => w'.cell? ⟨W.heap.size, 0, none⟩ = some (.string sa) ∧ w'.cell? ⟨W.heap.size, 1, none⟩ = some (.string sb) ∧ w'.cell? ⟨W.heap.size, 2, none⟩ = some (.string sc))
        (first | with_reducible exact HS3.out _ gd | with_reducible exact HS3.out _ ge | with_reducible exact HS3.out _ ga | with_reducible exact HS3.out _ gc)
        (first
          | (go_at_call 21; with_reducible refine (HV2b.out _ ge).mono ?_; rintro e wa2 ⟨⟨ua2, un2, uc2, rfl, hu2⟩, ga⟩)
          | (go_at_call 11; with_reducible refine (HE2b.out _ _ ga hu2).mono ?_; rintro e wc ⟨⟨ya, yc, rfl, hl2⟩, gc⟩))
      obtain ⟨xa', xc', ex, _, hx2, hx3⟩ := (HL3.out wc gc).form
      cases ex
      obtain ⟨xg, rfl, hxc⟩ := hx3 (by simp)
      obtain ⟨ya', yc', ey, _, hy2, hy3⟩ := hl2.form
      cases ey
      obtain ⟨yg, rfl, hyc⟩ := hy3 (by simp)
      have q0 := (hxc 0 _ rfl).2.1
      have q1 := (hxc 1 _ rfl).2.1
      have q2 := (hxc 2 _ rfl).2.1
      have q3 := (hxc 3 _ rfl).2.1
      have r2 := (hyc 2 _ rfl).2.1
      have r3 := (hyc 3 _ rfl).2.1
      simp only [Nat.zero_mul, Nat.zero_add, Nat.reduceMul, Nat.reduceAdd] at q0 q1 q2 q3 r2 r3
      have HCC : Hid (∀ w', Below wc.heap.size wc w' → (w'.cell? ⟨xg, 1, none⟩ = some (.string sa) ∧ w'.cell? ⟨xg, 4, none⟩ = some (.string sb) ∧ w'.cell? ⟨xg, 7, none⟩ = some (.string sc) ∧ w'.cell? ⟨xg, 10, none⟩ = some (.string sb)) ∧ (w'.cell? ⟨yg, 7, none⟩ = some (.string sa) ∧ w'.cell? ⟨yg, 10, none⟩ = some (.string sb)) ∧ w'.cell? ⟨W.heap.size, 0, none⟩ = some (.string sa) ∧ w'.cell? ⟨W.heap.size, 1, none⟩ = some (.string sb) ∧ w'.cell? ⟨W.heap.size, 2, none⟩ = some (.string sc)) := fun w' hb => by
        have g := fun (b o : Nat) u (h : wc.cell? ⟨b, o, none⟩ = some u) => (hb.cell (p := ⟨b, o, none⟩) (P.lt_of_cell h)).trans h
        obtain ⟨z0, z1, z2⟩ := HS3.out wc gc
        exact ⟨⟨g _ _ _ q0, g _ _ _ q1, g _ _ _ q2, g _ _ _ q3⟩, ⟨g _ _ _ r2, g _ _ _ r3⟩, g _ _ _ z0, g _ _ _ z1, g _ _ _ z2⟩
      have HBC : Hid (Below W.heap.size W wc) := HB2.out.trans ((HGB.out.trans (gc.mono HGB.out.size)).mono HB2.out.size)
      have HSD : Hid (∀ w', Below wc.heap.size wc w' → Calls Tryz.prog 17 #[.int .i64 3, .int .i64 3] w' fun e w'' => e = .returned (.int .i64 1) ∧ Below wc.heap.size wc w'') := fun w' hb => (sides_any 3 3 w' (HOK.out.keep (HBC.out.trans (hb.mono HBC.out.size))).sid).mono fun e w'' h => ⟨h.1, by rw [h.2]; exact hb⟩
      have HLL : Hid (∀ w', Below wc.heap.size wc w' → Calls Tryz.prog 8 #[] w' fun e w'' => e = .returned (.bool true) ∧ Below wc.heap.size wc w'') := fun w' hb => (HLV.out w' (HBC.out.trans (hb.mono HBC.out.size))).mono fun e w'' h => ⟨h.1, hb.trans (h.2.mono hb.size)⟩
      have ea : (sa.toList == sa.toList) = true := by simp
      have eb : (sb.toList == sb.toList) = true := by simp
      have ec : (sc.toList == sc.toList) = true := by simp
      clear gd ge ga gc hu2 hl2 hx3 hy3 hxc hyc q0 q1 q2 q3 r2 r3 HL3 HS3 HV2b HE2b HGB HE2 HT2 m1 m2 m3 m4 n0 n1 n2 n3 k1 k2 k3 k4
      have gd : Below wc.heap.size wc wc := Below.refl _ _
      have ge : Below wc.heap.size wc wc.drew := gd.drew
      go_upto_region 12 with (fail)
      simp only [List.append_eq, List.cons_append, List.nil_append]
      go_region_held3 (fun w' => (w'.cell? ⟨xg, 1, none⟩ = some (.string sa) ∧ w'.cell? ⟨xg, 4, none⟩ = some (.string sb) ∧ w'.cell? ⟨xg, 7, none⟩ = some (.string sc) ∧ w'.cell? ⟨xg, 10, none⟩ = some (.string sb)) ∧ (w'.cell? ⟨yg, 7, none⟩ = some (.string sa) ∧ w'.cell? ⟨yg, 10, none⟩ = some (.string sb)) ∧ w'.cell? ⟨W.heap.size, 0, none⟩ = some (.string sa) ∧ w'.cell? ⟨W.heap.size, 1, none⟩ = some (.string sb) ∧ w'.cell? ⟨W.heap.size, 2, none⟩ = some (.string sc))
        (first | with_reducible exact HCC.out _ gd | with_reducible exact HCC.out _ ge | with_reducible exact HCC.out _ ga | with_reducible exact HCC.out _ gb)
        (first
          | (go_at_call 17; with_reducible refine (HSD.out _ ge).mono ?_; rintro e wd ⟨rfl, ga⟩)
          | (go_at_call 8; with_reducible refine (HLL.out _ ga).mono ?_; rintro e we ⟨rfl, gb⟩))
      have HFIN : Hid (Below W.heap.size W we) := HBC.out.trans (gb.mono HBC.out.size)
      go_wp2
      go_ret
      exact ⟨rfl, HFIN.out⟩
end Go.Proofs.YtlhdapckenjigaaGreatDoor.S
