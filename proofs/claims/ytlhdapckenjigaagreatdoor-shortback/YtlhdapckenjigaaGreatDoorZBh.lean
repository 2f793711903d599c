/- Colours and numbers that were told are read as themselves. -/
import Derived.Test.YtlhdapckenjigaaGreatDoorZLi
import Derived.Test.YtlhdapckenjigaaGreatDoorZBm
namespace Go.Proofs.YtlhdapckenjigaaGreatDoor.Z
open Go.RowKit
open Go.Proofs.YtlhdapckenjigaaGreatDoor.L (T5 V VsAt t5Cells vCells cell_of_heap)
set_option maxRecDepth 100000

theorem enc_all : ∀ n : Fin 128, Lib.encodeRuneZ ((n.val : Nat) : Int) = [((n.val : Nat) : Int)] := by decide +kernel
theorem enc_asc {c : Int} (h0 : 0 ≤ c) (h1 : c < 128) : Lib.encodeRuneZ c = [c] := by
  obtain ⟨n, rfl⟩ : ∃ n : Nat, c = n := ⟨c.toNat, by omega⟩
  exact enc_all ⟨n, by omega⟩
/-- Characters that are read as themselves. -/
def Asc (l : List Int) : Prop := ∀ x ∈ l, 14 ≤ x ∧ x < 128
theorem bytes_asc : ∀ {l : List Int}, Asc l → bytesZ l = l
  | [], _ => rfl
  | c :: r, h => by
    have h1 := h c (by simp)
    have ih := bytes_asc (l := r) fun x hx => h x (by simp [hx])
    have e : bytesZ (c :: r) = Lib.encodeRuneZ c ++ bytesZ r := by unfold bytesZ; rw [List.flatMap_cons]
    rw [e, ih, enc_asc (by omega) (by omega)]
    rfl
theorem runes_asc {l : List Int} (h : Asc l) : runesZ (strOfNums l) = l := by
  have := runes_again (xs := l) fun c hc => by
    have := h c hc
    exact ⟨⟨by omega, by omega, by omega⟩, by omega, by omega, by omega⟩
  rwa [bytes_asc h] at this
theorem strT_asc {l : List Int} (h : Asc l) : strT l = strOfNums l := by
  unfold strT
  rw [bytes_asc h]
theorem bytesL_nums {l : List Int} (h : ∀ x ∈ l, 0 ≤ x ∧ x < 256) : W.bytesL (strOfNums l) = l := by
  unfold W.bytesL strOfNums
  simp only [List.map_map]
  conv => rhs; rw [← List.map_id l]
  apply List.map_congr_left
  intro x hx
  have := h x hx
  simp only [Function.comp, id]
  rw [UInt8.toNat_ofNat']
  omega
theorem Asc.byte {l : List Int} (h : Asc l) : ∀ x ∈ l, 0 ≤ x ∧ x < 256 := fun x hx => by have := h x hx; omega
/-- One token is one value. -/
theorem vals_one {l : List Int} {t : Tok} (h : Asc l) (ht : toks l = [t]) (hk : Y.closeZ t.kind = 0) : valsS (strOfNums l) = [V.mk (toT5 t) []] := by
  unfold valsS
  rw [runes_asc h, ht]
  unfold Y.valsZ
  simp only [List.map_cons, List.map_nil, List.length_cons, List.length_nil]
  unfold Y.someZ
  have h1 : (toT5 t).k = t.kind := rfl
  rw [if_neg (by simp), if_pos (by rw [h1]; exact hk)]
  simp [Y.someZ]
theorem ok_one {l : List Int} {t : Tok} (h : Asc l) (ht : toks l = [t]) (hk : Y.closeZ t.kind = 0) (hl : l.length ≤ 1000) (h1 : (strT t.text).size ≤ 1000) (h2 : (strT t.unit).size ≤ 1000) : okS (strOfNums l) = true := by
  unfold okS
  rw [vals_one h ht hk, runes_asc h, ht, W.strOf_size]
  rw [Bool.and_eq_true, Bool.and_eq_true]
  refine ⟨⟨decide_eq_true hl, by simp⟩, ?_⟩
  simp only [smB, List.length_cons, List.length_nil, List.all_cons, List.all_nil, Bool.and_true]
  show (_ && (decide ((strT t.text).size ≤ 1000) && decide ((strT t.unit).size ≤ 1000) && _)) = true
  rw [decide_eq_true h1, decide_eq_true h2]
  simp [V.kids]
/-- Digits to base 16, small. -/
def Hx (ds : List Int) : Prop := ∀ c ∈ ds, hexI c = true ∧ lowZ c = c
theorem Hx.asc {ds : List Int} (h : Hx ds) : Asc ds := fun c hc => by have := hexI_bd (h c hc).1; omega
theorem hex_part {c : Int} (h : hexI c = true) : partZ c = true := by
  have := of_decide_eq_true h
  unfold hexZ at this
  unfold partZ startZ digitZ
  simp
  repeat' split at this
  all_goals omega
theorem name_hx : ∀ {ds : List Int}, Hx ds → nameT ds 0 = ds ∧ nameR ds 0 = []
  | [], _ => ⟨rfl, rfl⟩
  | c :: r, h => by
    have h1 := hex_part (h c (by simp)).1
    obtain ⟨i1, i2⟩ := name_hx (ds := r) fun x hx => h x (by simp [hx])
    constructor
    · rw [nameT, if_pos h1, i1]
    · rw [nameR, if_pos h1, i2]
theorem toks_hx {ds : List Int} (h : Hx ds) (hne : ds ≠ []) : toks (35 :: ds) = [mkTok 4 ds [] false (nameB ds)] := by
  obtain ⟨b1, b2⟩ := name_hx h
  have hone : oneZ (35 :: ds) = (some (mkTok 4 ds [] false (nameB ds)), []) := by
    unfold oneZ
    have a1 : standsB [47, 42] (35 :: ds) = false := by simp [standsB, hd]
    have a2 : blankZ (hd (35 :: ds) 0) = false := by simp [hd, blankZ]
    have a3 : quoteB (35 :: ds) = false := by simp [quoteB, hd]
    have a4 : hashB (35 :: ds) = true := by
      show (true && (partZ (hd ds 0) || escB ds)) = true
      cases ds with
      | nil => exact absurd rfl hne
      | cons c r =>
        have : hd (c :: r) 0 = c := rfl
        rw [this, hex_part (h c (by simp)).1]
        rfl
    simp only [a1, a2, a3, a4, Bool.false_eq_true, if_false, if_true]
    show someT (hashZ ds) = _
    unfold hashZ
    rw [b1, b2]
    rfl
  rw [toks_cons, hone]
  rfl
theorem Hx.asc35 {ds : List Int} (h : Hx ds) : Asc (35 :: ds) := fun x hx => by
  rcases List.mem_cons.1 hx with rfl | hx
  · omega
  · exact h.asc x hx
theorem vals_hx {ds : List Int} (h : Hx ds) (hne : ds ≠ []) : valsS (strOfNums (35 :: ds)) = [V.mk ⟨4, strOfNums ds, strOfNums [], false, nameB ds⟩ []] := by
  rw [vals_one h.asc35 (toks_hx h hne) rfl]
  show [V.mk ⟨4, strT ds, strT [], false, nameB ds⟩ []] = _
  rw [strT_asc h.asc, strT_asc (l := []) (fun x hx => by cases hx)]
theorem ok_hx {ds : List Int} (h : Hx ds) (hne : ds ≠ []) (hl : ds.length ≤ 6) : okS (strOfNums (35 :: ds)) = true := by
  refine ok_one h.asc35 (toks_hx h hne) rfl (by simp; omega) ?_ ?_
  · show (strT ds).size ≤ 1000
    rw [strT_asc h.asc, W.strOf_size]; omega
  · show (strT []).size ≤ 1000
    rw [strT_asc (l := []) (fun x hx => by cases hx), W.strOf_size]; decide
theorem all_hx {ds : List Int} (h : Hx ds) : ds.all hexI = true := List.all_eq_true.2 fun c hc => (h c hc).1
theorem dye_one : ∀ {ds : List Int}, Hx ds → dyeL 1 ds = ds
  | [], _ => rfl
  | c :: r, h => by
    have ih := dye_one (ds := r) fun x hx => h x (by simp [hx])
    unfold dyeL at ih ⊢
    rw [List.flatMap_cons, ih, (h c (by simp)).2]
    rfl
/-- A colour of six digits is itself. -/
theorem color_six {ds : List Int} (h : Hx ds) (hl : ds.length = 6) (u : ByteArray) (wh fl : Bool) : colorO ⟨4, strOfNums ds, u, wh, fl⟩ = some (strOfNums (35 :: ds)) := by
  show dyedO (strOfNums ds) = _
  unfold dyedO
  rw [W.strOf_size, hl, if_neg (by decide), if_pos rfl]
  unfold dyeS
  rw [bytesL_nums h.asc.byte, if_pos (all_hx h), dye_one h]
theorem color_three {a b c : Int} (h : Hx [a, b, c]) (u : ByteArray) (wh fl : Bool) : colorO ⟨4, strOfNums [a, b, c], u, wh, fl⟩ = some (strOfNums [35, a, a, b, b, c, c]) := by
  show dyedO (strOfNums [a, b, c]) = _
  unfold dyedO
  rw [W.strOf_size, if_pos (show [a, b, c].length = 3 from rfl)]
  unfold dyeS
  rw [bytesL_nums h.asc.byte, if_pos (all_hx h)]
  have e1 := (h a (by simp)).2
  have e2 := (h b (by simp)).2
  have e3 := (h c (by simp)).2
  simp [dyeL, e1, e2, e3]
theorem CT_ok : CT.all (fun x => decide (x.2 = strOfNums (35 :: (W.bytesL x.2).drop 1)) && decide (((W.bytesL x.2).drop 1).length = 6) && ((W.bytesL x.2).drop 1).all (fun c => hexI c && decide (lowZ c = c))) = true := by kernel_rfl
theorem low_all : ∀ n : Fin 128, hexI ((n.val : Nat) : Int) = true → hexI (lowZ ((n.val : Nat) : Int)) = true ∧ lowZ (lowZ ((n.val : Nat) : Int)) = lowZ ((n.val : Nat) : Int) := by decide +kernel
theorem low_hex {c : Int} (h : hexI c = true) : hexI (lowZ c) = true ∧ lowZ (lowZ c) = lowZ c := by
  have hbd := hexI_bd h
  obtain ⟨n, rfl⟩ : ∃ n : Nat, c = n := ⟨c.toNat, by omega⟩
  exact low_all ⟨n, by omega⟩ h
theorem dye_hx {m : Nat} {l : List Int} (h : l.all hexI = true) : Hx (dyeL m l) := fun c hc => by
  unfold dyeL at hc
  obtain ⟨x, hx, hc⟩ := List.mem_flatMap.1 hc
  have := (List.mem_replicate.1 hc).2
  subst this
  exact low_hex (List.all_eq_true.1 h x hx)
theorem dye_form {m : Nat} {s r : ByteArray} (h : dyeS m s = some r) (hm : s.size * m = 6) : ∃ ds, r = strOfNums (35 :: ds) ∧ ds.length = 6 ∧ Hx ds := by
  unfold dyeS at h
  split at h
  · rename_i ha
    cases h
    exact ⟨_, rfl, by rw [dye_len, W.bytesL_size]; exact hm, dye_hx ha⟩
  · cases h
/-- What a colour is told as. -/
theorem color_form {t : T5} {s : ByteArray} (h : colorO t = some s) : ∃ ds, s = strOfNums (35 :: ds) ∧ ds.length = 6 ∧ Hx ds := by
  unfold colorO at h
  split at h
  · unfold namedO at h
    obtain ⟨x, hx, rfl⟩ := Option.map_eq_some_iff.1 h
    have h1 := List.all_eq_true.1 CT_ok x (List.mem_of_find?_eq_some hx)
    rw [Bool.and_eq_true, Bool.and_eq_true] at h1
    refine ⟨_, of_decide_eq_true h1.1.1, of_decide_eq_true h1.1.2, fun c hc => ?_⟩
    have h2 := List.all_eq_true.1 h1.2 c hc
    rw [Bool.and_eq_true] at h2
    exact ⟨h2.1, of_decide_eq_true h2.2⟩
  · split at h
    · unfold dyedO at h
      split at h
      · rename_i h3
        exact dye_form h (by rw [h3])
      · split at h
        · rename_i h6
          exact dye_form h (by rw [h6])
        · cases h
    · cases h
def colN : ByteArray := ⟨#[99, 111, 108, 111, 114]⟩
theorem col_forms : P.prts (P.prc colN).f = [⟨#[60, 99, 111, 108, 111, 114, 62]⟩] ∧ P.plc colN = 38 := by
  constructor <;> kernel_rfl
theorem one_of {x : V} (h : x.tok.k ≠ 13) : oneO [x] = some x := by
  have e : Y.spaceV x = false := by
    unfold Y.spaceV Y.hasZ
    simpa using h
  unfold oneO Y.trimZ Y.aheadZ
  simp [e]
theorem parse_col (t : T5) (h : t.k ≠ 13) : parseO colN [V.mk t []] = colorO t := by
  unfold parseO
  rw [col_forms.2, if_neg (by decide), one_of (x := V.mk t []) h, col_forms.1]
  show List.findSome? _ [_] = _
  rw [List.findSome?_cons]
  have : partO ⟨#[60, 99, 111, 108, 111, 114, 62]⟩ t 0 = colorO t := by
    unfold partO
    rw [if_neg (by decide), show asksA (⟨#[60, 99, 111, 108, 111, 114, 62]⟩ : ByteArray) = .col by kernel_rfl]
    rfl
  have e2 : partO ⟨#[60, 99, 111, 108, 111, 114, 62]⟩ (V.mk t []).tok (V.mk t []).kids.length = colorO t := this
  rw [e2]
  cases colorO t <;> rfl
end Go.Proofs.YtlhdapckenjigaaGreatDoor.Z
