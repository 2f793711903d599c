/- Values of properties, plainly. value.named: the colour of a name. value.dyed: the colour of three or six digits to base 16. value.dyed: the walk. value.Color. -/
import Derived.Test.YtlhdapckenjigaaGreatDoorWWh
import Derived.Test.YtlhdapckenjigaaGreatDoorWDi
import Derived.Test.YtlhdapckenjigaaGreatDoorPRl
import Derived.Test.YtlhdapckenjigaaGreatDoorYValuesV
import Derived.Shelf.Strings.Repeat
import Derived.Shelf.Lay
import Derived.Laws.Runes
namespace Go.Proofs.YtlhdapckenjigaaGreatDoor.Z
open Go.RowKit
open Go.Proofs.YtlhdapckenjigaaGreatDoor.L (T5 V VsAt t5Cells vCells cell_of_heap)
set_option maxRecDepth 100000

/-- The colours that have a name. -/
def CT : List (ByteArray × ByteArray) := [(⟨#[98, 108, 97, 99, 107]⟩, ⟨#[35, 48, 48, 48, 48, 48, 48]⟩), (⟨#[119, 104, 105, 116, 101]⟩, ⟨#[35, 102, 102, 102, 102, 102, 102]⟩), (⟨#[114, 101, 100]⟩, ⟨#[35, 102, 102, 48, 48, 48, 48]⟩), (⟨#[103, 114, 101, 101, 110]⟩, ⟨#[35, 48, 48, 56, 48, 48, 48]⟩), (⟨#[98, 108, 117, 101]⟩, ⟨#[35, 48, 48, 48, 48, 102, 102]⟩), (⟨#[103, 114, 97, 121]⟩, ⟨#[35, 56, 48, 56, 48, 56, 48]⟩), (⟨#[121, 101, 108, 108, 111, 119]⟩, ⟨#[35, 102, 102, 102, 102, 48, 48]⟩), (⟨#[112, 117, 114, 112, 108, 101]⟩, ⟨#[35, 56, 48, 48, 48, 56, 48]⟩)]
def isC (f : ByteArray) (x : ByteArray × ByteArray) : Bool := x.1.toList == f.toList
/-- The colour of a name. -/
def namedO (s : ByteArray) : Option ByteArray := (CT.find? (isC (foldS s))).map (·.2)
def hexI (c : Int) : Bool := decide (0 ≤ hexZ c)
def lowZ (c : Int) : Int := if 65 ≤ c ∧ c ≤ 90 then c + 32 else c
/-- What is written of digits, each so often. -/
def dyeL (m : Nat) (l : List Int) : List Int := l.flatMap fun c => List.replicate m (lowZ c)
/-- The colour of digits to base 16. -/
def dyeS (m : Nat) (s : ByteArray) : Option ByteArray := if (W.bytesL s).all hexI = true then some (strOfNums (35 :: dyeL m (W.bytesL s))) else none
/-- The colour of three or six digits. -/
def dyedO (s : ByteArray) : Option ByteArray := if s.size = 3 then dyeS 2 s else if s.size = 6 then dyeS 1 s else none
def colorO (t : T5) : Option ByteArray := if t.k = 1 then namedO t.tx else if t.k = 4 then dyedO t.tx else none
/-- What token's Int says. -/
def intP (t : T5) : Int × Bool := if (t.k = 10 ∨ t.k = 11 ∨ t.k = 12) ∧ t.wh = true then W.intV (W.negB t.tx) (W.bytesL (W.bodyS t.tx)) else (0, false)
def pxS : ByteArray := ⟨#[112, 120]⟩
def pcS : ByteArray := ⟨#[37]⟩
def noS : ByteArray := ⟨#[]⟩
/-- The three ways in which a whole number fits. -/
inductive Fits where | len | pct | int
def Fits.ok (f : Fits) (t : T5) (n : Int) : Bool := match f with
  | .len => (t.k == 12 && (foldS t.un).toList == [112, 120]) || (t.k == 10 && n == 0)
  | .pct => t.k == 11
  | .int => t.k == 10
def Fits.unit : Fits → ByteArray
  | .len => pxS
  | .pct => pcS
  | .int => noS
def wholeO (f : Fits) (up : Bool) (t : T5) : Option ByteArray :=
  if (intP t).2 = false ∨ f.ok t (intP t).1 = false ∨ (up = true ∧ (intP t).1 < 0) then none else some (W.itS (intP t).1 ++ f.unit)
def wordO (form : ByteArray) (t : T5) : Option ByteArray := if t.k = 1 ∧ foldS t.tx = foldS form then some form else none
/-- What a form asks. -/
inductive Ask where
  | num (f : Fits) (up : Bool)
  | col
  | word (form : ByteArray)
def asksA (form : ByteArray) : Ask :=
  if form.toList = [60, 108, 101, 110, 62] then .num .len false
  else if form.toList = [60, 108, 101, 110, 43, 62] then .num .len true
  else if form.toList = [60, 112, 99, 116, 62] then .num .pct false
  else if form.toList = [60, 112, 99, 116, 43, 62] then .num .pct true
  else if form.toList = [60, 105, 110, 116, 62] then .num .int false
  else if form.toList = [60, 105, 110, 116, 43, 62] then .num .int true
  else if form.toList = [60, 99, 111, 108, 111, 114, 62] then .col
  else .word form
def askO : Ask → T5 → Option ByteArray
  | .num f up, t => wholeO f up t
  | .col, t => colorO t
  | .word form, t => wordO form t
/-- A value as a part of a form. -/
def partO (form : ByteArray) (t : T5) (kids : Nat) : Option ByteArray := if 0 < kids then none else askO (asksA form) t
def oneO (vs : List V) : Option V := match Y.trimZ vs with
  | [x] => some x
  | _ => none
def parseO (name : ByteArray) (vs : List V) : Option ByteArray :=
  if P.plc name < 0 then none else match oneO vs with
    | none => none
    | some x => (P.prts (P.prc name).f).findSome? fun f => partO f x.tok x.kids.length
def wideS (vs : List V) : ByteArray := match oneO vs with
  | none => noS
  | some x => if x.tok.k = 1 ∧ ((foldS x.tok.tx).toList = [105, 110, 104, 101, 114, 105, 116] ∨ (foldS x.tok.tx).toList = [105, 110, 105, 116, 105, 97, 108] ∨ (foldS x.tok.tx).toList = [117, 110, 115, 101, 116]) then foldS x.tok.tx else noS
/-- What is told: a text, and whether. -/
def res (o : Option ByteArray) : Value := .tuple #[.string (o.getD noS), .bool o.isSome]
theorem res_none : res none = .tuple #[.string ⟨#[]⟩, .bool false] := rfl
theorem res_some (s : ByteArray) : res (some s) = .tuple #[.string s, .bool true] := rfl
/-- The table of the colours. -/
def ctC : List Value := CT.flatMap fun x => [.string x.1, .string x.2]
def Col (w : World) : Prop := w.rangeAt 2 0 ctC
theorem Col.lt {W : World} (h : Col W) {j : Nat} {v : Value} (hv : ctC[j]? = some v) : 2 < W.heap.size := by
  have h1 := h j v hv
  rcases Nat.lt_or_ge 2 W.heap.size with h0 | h0
  · exact h0
  · have : W.heap[2]? = none := Array.getElem?_eq_none h0
    simp [World.cell?, this] at h1
theorem Col.keep {W W' : World} (h : Col W) (hb : Below W.heap.size W W') : Col W' := fun j v hv => by
  have h1 := h j v hv
  have hl := h.lt (v := v) hv
  exact (cell_of_heap (hb.block 2 hl)).trans h1
/-- Where a call begins: the tables lie as they were laid. -/
structure Ok (w : World) : Prop where
  col : Col w
  pow : W.Pow w
  max : P.MC w
theorem Ok.keep {w w' : World} (h : Ok w) (hb : Below w.heap.size w w') : Ok w' := ⟨h.col.keep hb, W.pow_below h.pow hb, h.max.keep hb⟩
theorem Ok.on {B : Nat} {w w' : World} (h : Ok w) (hb : Below B w w') (hB : w.heap.size ≤ B) : Ok w' := h.keep (hb.mono hB)
end Go.Proofs.YtlhdapckenjigaaGreatDoor.Z
namespace Go.Proofs.YtlhdapckenjigaaGreatDoor.Z
open Go.RowKit
open Go.Proofs.YtlhdapckenjigaaGreatDoor.L (T5 V VsAt t5Cells vCells cell_of_heap)
set_option maxRecDepth 100000

theorem ct_at : ∀ t, t < 8 → ∃ n x, CT[t]? = some (n, x) ∧ ∀ w, (Instr.index 173 (.agg ctC.toArray) (.int .i64 (t : Nat))).run Tryz.prog w = .ok (.agg #[.string n, .string x]) w
  | 0, _ => ⟨_, _, rfl, fun w => by kernel_rfl⟩
  | 1, _ => ⟨_, _, rfl, fun w => by kernel_rfl⟩
  | 2, _ => ⟨_, _, rfl, fun w => by kernel_rfl⟩
  | 3, _ => ⟨_, _, rfl, fun w => by kernel_rfl⟩
  | 4, _ => ⟨_, _, rfl, fun w => by kernel_rfl⟩
  | 5, _ => ⟨_, _, rfl, fun w => by kernel_rfl⟩
  | 6, _ => ⟨_, _, rfl, fun w => by kernel_rfl⟩
  | 7, _ => ⟨_, _, rfl, fun w => by kernel_rfl⟩
  | t + 8, h => absurd h (by omega)
theorem info92 : (Tryz.prog.info? 173).map (·.size) = some ctC.length := by kernel_rfl
theorem drop_at {α : Type} {l : List α} {t : Nat} {x : α} (h : l[t]? = some x) : l.drop t = x :: l.drop (t + 1) := by
  obtain ⟨hl, rfl⟩ := List.getElem?_eq_some_iff.1 h
  exact List.drop_eq_getElem_cons hl
def fndC (f : ByteArray) (l : List (ByteArray × ByteArray)) : Option ByteArray := (l.find? (isC f)).map (·.2)
theorem fndC_cons (f n x : ByteArray) (r : List (ByteArray × ByteArray)) : fndC f ((n, x) :: r) = if (n.toList == f.toList) = true then some x else fndC f r := by
  unfold fndC isC
  rw [List.find?_cons]
  cases h : (n.toList == f.toList) <;> simp

set_option maxHeartbeats 800000 in
theorem named_any {W : World} (hs : Col W) (s : ByteArray) (hz : s.size ≤ 1000000) :
    Calls Tryz.prog 159 #[.string s] W fun e w' => e = .returned (res (namedO s)) ∧ Below W.heap.size W w' := by
  have HX : Hid (∀ t, t < 8 → ∃ n x, CT[t]? = some (n, x) ∧ ∀ w, (Instr.index 173 (.agg ctC.toArray) (.int .i64 (t : Nat))).run Tryz.prog w = .ok (.agg #[.string n, .string x]) w) := ct_at
  have HI : Hid ((Tryz.prog.info? 173).map (·.size) = some ctC.length) := info92
  have HR : Hid (∀ w, Below W.heap.size W w → w.rangeAt 2 0 ctC) := fun w hb => Col.keep hs hb
  have HL : Hid (CT.length = 8) := rfl
  have H0 : Hid (fndC (foldS s) (CT.drop 0) = namedO s) := rfl
  have hf := fold_any s W (by omega)
  generalize namedO s = R at *
  generalize ctC = C at *
  generalize CT = T at *
  generalize foldS s = f at *
  clear hs
  go_enter Tryz.func159, Tryz.ntmps159
  go_wp2_with (go_at_call 72; fail)
  refine hf.mono ?_
  rintro e w1 ⟨rfl, hb1⟩
  have HB1 := L.hid_mk hb1
  have HR1 := L.hid_mk (HR.out w1 hb1)
  clear hf hb1 HR
  go_wp2_with (refine wpList_load_mid rfl 173 (.global 2) rfl 2 0 rfl C _ HR1.out Tryz.underlying173 rfl HI.out ?_)
  go_loopw [9] (fun a9 wq => ∃ t : Nat, t ≤ 8 ∧ a9 = .int .i64 (t : Int) ∧ Hid (fndC f (T.drop t) = R) ∧ Hid (Below W.heap.size W wq)) (fun a9 _ => 9 - (intOf a9).toNat)
  case atStart => exact ⟨0, by decide, rfl, H0, HB1⟩
  case round =>
    obtain ⟨t, ht, rfl, HE, HB⟩ := hrel
    clear H0
    by_cases htl : t < 8
    · obtain ⟨n, x, h1, h2⟩ := HX.out t htl
      have hd1 : decide ((t : Int) < 8) = true := decide_eq_true (by omega)
      have HD : Hid (R = if (n.toList == f.toList) = true then some x else fndC f (T.drop (t + 1))) := by
        rw [Hid, ← HE.out, drop_at h1, fndC_cons]
      have HBA : Hid (Below W.heap.size W (wr.alloc (.cells #[.string n, .string x] 172))) := HB.out.alloc HB.out.size _
      clear HX h1 HE HR1 HI
      by_cases hx : (n.toList == f.toList) = true
      · have HZ : Hid (R = some x) := by rw [Hid, HD.out, if_pos hx]
        clear HD
        go_wp2
        go_ret2
        exact ⟨by rw [HZ.out]; rfl, HBA.out⟩
      · have hx2 : (n.toList == f.toList) = false := by simpa using hx
        have HZ : Hid (fndC f (T.drop (t + 1)) = R) := by rw [Hid, HD.out, if_neg hx]
        clear HD hx
        go_wp2
        exact ⟨⟨t + 1, by omega, by go_num, HZ, HBA⟩, by simp only [intOf]; omega⟩
    · have hte : t = 8 := by omega
      subst hte
      have HZ : Hid (R = none) := by rw [Hid, ← HE.out, List.drop_eq_nil_of_le (by rw [HL.out]; decide)]; rfl
      clear HX HE HR1 HI
      go_wp2
      go_ret2
      exact ⟨by rw [HZ.out]; rfl, HB.out⟩
end Go.Proofs.YtlhdapckenjigaaGreatDoor.Z
namespace Go.Proofs.YtlhdapckenjigaaGreatDoor.Z
open Go.RowKit
open Go.Proofs.YtlhdapckenjigaaGreatDoor.L (T5 V VsAt t5Cells vCells cell_of_heap)
set_option maxRecDepth 100000

shelf_lay Lays.n105 Nm 105 at Tryz as laysRp
theorem rpExtra : Builder.Extra Tryz.prog laysRp_ren where
  sizeBuilder := by kernel_rfl
  liesBuilder := by kernel_rfl
  t5 := laysRp.t5
  a5 := laysRp.a5
  z5 := laysRp.z5
  v5 := laysRp.v5
  infoByte := by kernel_rfl
  cellsByte := by kernel_rfl
  sizeByte := by kernel_rfl
  neB5 := by decide
theorem repeat_any (s : ByteArray) (c : Nat) (hc : c = 1 ∨ c = 2) (hs : s.size = 1) (w : World) :
    Calls Tryz.prog 170 #[.string s, .int .i64 (c : Int)] w fun e w' => e = .returned (.string ⟨(Lib.repeatL s.data.toList c).toArray⟩) ∧ Below w.heap.size w w' :=
  Any.strings_Repeat laysRp rpExtra s c w (by omega) (by rcases hc with rfl | rfl <;> omega)
theorem low_at : ∀ n : Fin 128, foldS (strOfNums [((n.val : Nat) : Int)]) = strOfNums [lowZ ((n.val : Nat) : Int)] := by decide +kernel
theorem enc_at : ∀ n : Fin 128, Utf8.encode ((n.val : Nat) : Int) = strOfNums [((n.val : Nat) : Int)] := by decide +kernel
theorem low_of {c : Int} (h0 : 0 ≤ c) (h1 : c < 128) : foldS (strOfNums [c]) = strOfNums [lowZ c] := by
  obtain ⟨n, rfl⟩ : ∃ n : Nat, c = n := ⟨c.toNat, by omega⟩
  exact low_at ⟨n, by omega⟩
theorem enc_of {c : Int} (h0 : 0 ≤ c) (h1 : c < 128) : Utf8.encode c = strOfNums [c] := by
  obtain ⟨n, rfl⟩ : ∃ n : Nat, c = n := ⟨c.toNat, by omega⟩
  exact enc_at ⟨n, by omega⟩
theorem rep_of (x : Int) (m : Nat) : (⟨(Lib.repeatL (strOfNums [x]).data.toList m).toArray⟩ : ByteArray) = strOfNums (List.replicate m x) := by
  induction m with
  | zero => rfl
  | succ m ih =>
    have h : (⟨(Lib.repeatL (strOfNums [x]).data.toList (m + 1)).toArray⟩ : ByteArray) = strOfNums [x] ++ (⟨(Lib.repeatL (strOfNums [x]).data.toList m).toArray⟩ : ByteArray) := by
      apply ByteArray.ext
      simp [Lib.repeatL, strOfNums, ByteArray.data_append]
    rw [h, ih, List.replicate_succ, ← W.nums_two]
    rfl
theorem hexI_bd {c : Int} (h : hexI c = true) : 48 ≤ c ∧ c ≤ 102 := by
  unfold hexI hexZ at h
  have h := of_decide_eq_true h
  repeat' split at h
  all_goals omega
theorem hexI_no {c : Int} (h : hexI c = false) : hexZ c < 0 := by
  unfold hexI at h
  have := of_decide_eq_false h
  omega
/-- A byte that is a digit to base 16 is read as itself; another is read as none. -/
theorem dec_hex (t : ByteArray) (p : Nat) (hp : p < t.size) : (hexI ((W.bytesL t).getD p 0) = true ∧ (((Utf8.decode t p).1 : Nat) : Int) = (W.bytesL t).getD p 0 ∧ (Utf8.decode t p).2 = 1) ∨ (hexI ((W.bytesL t).getD p 0) = false ∧ hexZ (((Utf8.decode t p).1 : Nat) : Int) < 0 ∧ (Utf8.decode t p).1 ≤ 1114111) := by
  have hg : (W.bytesL t).getD p 0 = ((t.get! p).toNat : Int) := by
    have hs := str_get (W.bytesL_byte t) p
    rw [W.bytesL_str] at hs
    have hb : 0 ≤ (W.bytesL t).getD p 0 := (W.bytesL_byte t _ (by
      have : p < (W.bytesL t).length := by rw [W.bytesL_size]; exact hp
      simp [List.getD, this])).1
    omega
  rw [hg, Lib.decode_at]
  have hb := (t.get! p).toNat_lt
  have hb1 := (t.get! (p + 1)).toNat_lt
  have hb2 := (t.get! (p + 2)).toNat_lt
  have hb3 := (t.get! (p + 3)).toNat_lt
  generalize (t.get! p).toNat = b0 at *
  generalize (t.get! (p + 1)).toNat = b1 at *
  generalize (t.get! (p + 2)).toNat = b2 at *
  generalize (t.get! (p + 3)).toNat = b3 at *
  cases h : hexI (b0 : Int) with
  | true =>
    left
    have hbd := hexI_bd h
    have e : Lib.decodeN (t.size - p) b0 b1 b2 b3 = (b0, 1) := by
      unfold Lib.decodeN
      rw [if_pos (by omega)]
    rw [e]
    exact ⟨rfl, rfl, rfl⟩
  | false =>
    right
    have hn := hexI_no h
    have key : ((((Lib.decodeN (t.size - p) b0 b1 b2 b3).1 : Nat) : Int) = b0 ∨ 128 ≤ (((Lib.decodeN (t.size - p) b0 b1 b2 b3).1 : Nat) : Int)) ∧ (Lib.decodeN (t.size - p) b0 b1 b2 b3).1 ≤ 1114111 := by
      unfold Lib.decodeN
      repeat' split
      all_goals (simp only; first | exact ⟨.inl trivial, by omega⟩ | exact ⟨by omega, by omega⟩)
    refine ⟨rfl, ?_, key.2⟩
    rcases key.1 with e | e
    · rw [e]; exact hn
    · unfold hexZ
      repeat' split
      all_goals omega
theorem dye_snoc (m : Nat) (l : List Int) (c : Int) : dyeL m (l ++ [c]) = dyeL m l ++ List.replicate m (lowZ c) := by
  unfold dyeL
  rw [List.flatMap_append]
  simp
theorem dye_len (m : Nat) (l : List Int) : (dyeL m l).length = l.length * m := by
  unfold dyeL
  induction l with
  | nil => simp
  | cons c r ih => rw [List.flatMap_cons, List.length_append, ih, List.length_replicate, List.length_cons, Nat.succ_mul, Nat.add_comm]
end Go.Proofs.YtlhdapckenjigaaGreatDoor.Z
namespace Go.Proofs.YtlhdapckenjigaaGreatDoor.Z
open Go.RowKit
open Go.Proofs.YtlhdapckenjigaaGreatDoor.L (T5 V VsAt t5Cells vCells cell_of_heap)
set_option maxRecDepth 100000

set_option maxHeartbeats 2000000 in
theorem dyed_three (s : ByteArray) (w : World) (m : Nat) (hm : (s.size = 3 ∧ m = 2) ∨ (s.size = 6 ∧ m = 1)) :
    Calls Tryz.prog 160 #[.string s] w fun e w' => e = .returned (res (dyeS m s)) ∧ Below w.heap.size w w' := by
  have HDEC := L.hid_mk (fun p hp => dec_hex s p hp)
  have HSZ := L.hid_mk (W.bytesL_size s)
  have HR : Hid (dyeS m s = if (W.bytesL s).all hexI = true then some (strOfNums (35 :: dyeL m (W.bytesL s))) else none) := rfl
  have h9 : s.size ≤ 6 := by rcases hm with ⟨h, _⟩ | ⟨h, _⟩ <;> omega
  generalize dyeS m s = R at *
  generalize hds : W.bytesL s = ds at *
  clear hds
  have hb2 : Below w.heap.size w w := Below.refl _ w
  have H35 : Hid ((⟨#[35]⟩ : ByteArray) = strOfNums (35 :: dyeL m (ds.take 0))) := rfl
  have key : ((s.size : Int) == 3) = true ∧ m = 2 ∨ ((s.size : Int) == 3) = false ∧ ((s.size : Int) == 6) = true ∧ m = 1 := by
    rcases hm with ⟨h, hh⟩ | ⟨h, hh⟩
    · left; exact ⟨by rw [h]; rfl, hh⟩
    · right; exact ⟨by rw [h]; rfl, by rw [h]; rfl, hh⟩
  clear hm
  rcases key with ⟨k1, rfl⟩ | ⟨k1, k2, rfl⟩
  · go_enter Tryz.func160, Tryz.ntmps160
    go_wp2
    go_loopw [5] (fun a5 wr => ∃ p : Nat, wr.heap[w.heap.size]? = some (.stringIter s p) ∧ Below w.heap.size w wr ∧ a5 = .string (strOfNums (35 :: dyeL 2 (ds.take p))) ∧ p ≤ ds.length ∧ Hid ((ds.take p).all hexI = true)) (fun _ wr => s.size - wr.iterPos w.heap.size)
    case atStart => exact ⟨0, World.iter_heap w s 0, Below.iter hb2 (Nat.le_refl _) s 0, by rw [← H35.out], Nat.zero_le _, rfl⟩
    case round =>
      obtain ⟨p, hit, hbw, rfl, hp, HDG⟩ := hrel
      clear H35
      by_cases hlt : p < ds.length
      · have hps : p < s.size := by rw [← HSZ.out]; exact hlt
        have hnx : ∀ ty, (Instr.next (.pointer (some ⟨w.heap.size, 0, none⟩)) true ty).run Tryz.prog wr = _ := fun ty => Lib.run_next_any_at wr w.heap.size s p ty hit hps
        have hit3 := Lib.iterAt_heap wr w.heap.size s p (p + (Utf8.decode s p).2) hit
        have hbw3 := Lib.below_iterAt hbw (k := w.heap.size) (Nat.le_refl _) s (p + (Utf8.decode s p).2)
        have HTK : Hid (ds.take (p + 1) = ds.take p ++ [ds.getD p 0]) := by
          show _ = _
          rw [List.take_add_one]
          simp [List.getD, hlt]
        have HMEM : Hid (ds.getD p 0 ∈ ds) := by
          show _ ∈ _
          simp [List.getD, hlt]
        have hsz2 : (strOfNums (35 :: dyeL 2 (ds.take p))).size ≤ 100 := by
          rw [W.strOf_size, List.length_cons, dye_len, List.length_take]
          have := HSZ.out
          omega
        rcases HDEC.out p hps with ⟨hc1, hdc, hwd⟩ | ⟨hnd, hdz, hmx⟩
        · rw [hwd] at hnx hit3 hbw3
          rw [hdc] at hnx
          have hbd := hexI_bd hc1
          have HS : Hid (strOfNums (35 :: dyeL 2 (ds.take (p + 1))) = strOfNums (35 :: dyeL 2 (ds.take p)) ++ strOfNums (List.replicate 2 (lowZ (ds.getD p 0)))) := by
            show _ = _
            rw [HTK.out, dye_snoc, ← W.nums_two]
            rfl
          have HD2 : Hid ((ds.take (p + 1)).all hexI = true) := by
            show _ = _
            rw [HTK.out, List.all_append, HDG.out]
            simp only [List.all_cons, List.all_nil, Bool.true_and, Bool.and_true]
            exact hc1
          have hhx := hex_any (ds.getD p 0) (wr.iterAt w.heap.size s (p + 1)) (by omega)
          have hge : decide (hexZ (ds.getD p 0) < 0) = false := decide_eq_false (by have := of_decide_eq_true hc1; omega)
          have henc := enc_of (c := ds.getD p 0) (by omega) (by omega)
          have hfo := fun w => fold_any (strOfNums [ds.getD p 0]) w (by rw [W.strOf_size]; simp)
          rw [low_of (by omega) (by omega)] at hfo
          have hrp := fun w => repeat_any (strOfNums [lowZ (ds.getD p 0)]) 2 (by decide) (by rw [W.strOf_size]; rfl) w
          rw [rep_of] at hrp
          have hsz3 : (strOfNums (List.replicate 2 (lowZ (ds.getD p 0)))).size ≤ 2 := by rw [W.strOf_size, List.length_replicate]; decide
          have HFO := L.hid_mk hfo
          have HRP := L.hid_mk hrp
          generalize strOfNums (List.replicate 2 (lowZ (ds.getD p 0))) = rs at *
          generalize strOfNums [lowZ (ds.getD p 0)] = ls at *
          generalize strOfNums [ds.getD p 0] = es at *
          generalize hexZ (ds.getD p 0) = hx at *
          generalize ds.getD p 0 = c at *
          generalize wr.iterAt w.heap.size s (p + 1) = W3 at *
          have hme : s.size - W3.iterPos w.heap.size < s.size - wr.iterPos w.heap.size := by
            simp only [World.iterPos, hit3, hit]
            omega
          generalize strOfNums (35 :: dyeL 2 (ds.take p)) = os at *
          clear hdc hwd hit hbw hfo hrp hc1
          go_wp2_with (go_at_call 144; fail)
          refine (hhx).mono ?_
          rintro e w' ⟨rfl, rfl⟩
          go_wp2_with (go_at_call 72; fail)
          refine (HFO.out _).mono ?_
          rintro e w4 ⟨rfl, hb4⟩
          go_wp2_with (go_at_call 170; fail)
          refine (HRP.out _).mono ?_
          rintro e w5 ⟨rfl, hb5⟩
          have hb6 : Below W3.heap.size W3 w5 := hb4.trans (hb5.mono hb4.size)
          have hit5 : w5.heap[w.heap.size]? = some (.stringIter s (p + 1)) := (hb6.block _ (Array.getElem?_eq_some_iff.1 hit3).1).trans hit3
          have hbw5 : Below w.heap.size w w5 := hbw3.trans (hb6.mono hbw3.size)
          have hme5 : s.size - w5.iterPos w.heap.size < s.size - wr.iterPos w.heap.size := by
            have : w5.iterPos w.heap.size = W3.iterPos w.heap.size := by simp only [World.iterPos, hit3, hit5]
            rw [this]; exact hme
          clear hb4 hb5 hb6
          go_wp2
          go_roundw
          case rel => exact ⟨p + 1, hit5, hbw5, congrArg Value.string HS.out.symm, by omega, HD2⟩
          case measure => exact hme5
        · have HNO : Hid (R = none) := by
            show _ = _
            rw [HR.out, if_neg]
            intro h
            have := List.all_eq_true.1 h _ HMEM.out
            rw [hnd] at this
            cases this
          have hhx := hex_any (((Utf8.decode s p).1 : Nat) : Int) (wr.iterAt w.heap.size s (p + (Utf8.decode s p).2)) (by omega)
          have hlt0 : decide (hexZ (((Utf8.decode s p).1 : Nat) : Int) < 0) = true := decide_eq_true hdz
          generalize hexZ (((Utf8.decode s p).1 : Nat) : Int) = hx at *
          generalize ((Utf8.decode s p).1 : Nat) = cd at *
          generalize wr.iterAt w.heap.size s (p + (Utf8.decode s p).2) = W3 at *
          generalize strOfNums (35 :: dyeL 2 (ds.take p)) = os at *
          clear hdz hnd hit hbw
          go_wp2_with (go_at_call 144; fail)
          refine (hhx).mono ?_
          rintro e w' ⟨rfl, rfl⟩
          go_wp2
          go_ret2
          exact ⟨by rw [HNO.out]; rfl, hbw3⟩
      · have hps : ¬ p < s.size := by rw [← HSZ.out]; exact hlt
        have hnx : ∀ ty, (Instr.next (.pointer (some ⟨w.heap.size, 0, none⟩)) true ty).run Tryz.prog wr = _ := fun ty => Lib.run_next_end_at wr w.heap.size s p ty hit hps
        have HE : Hid (ds.take p = ds) := by show ds.take p = ds; exact List.take_of_length_le (by omega)
        have HDD : Hid (R = some (strOfNums (35 :: dyeL 2 (ds.take p)))) := by
          show _ = _
          have h1 := HDG.out
          rw [HE.out] at h1 ⊢
          rw [HR.out, if_pos h1]
        generalize strOfNums (35 :: dyeL 2 (ds.take p)) = os at *
        go_wp2
        go_ret2
        exact ⟨by rw [HDD.out]; rfl, hbw⟩
  · go_enter Tryz.func160, Tryz.ntmps160
    go_wp2
    go_loopw [5] (fun a5 wr => ∃ p : Nat, wr.heap[w.heap.size]? = some (.stringIter s p) ∧ Below w.heap.size w wr ∧ a5 = .string (strOfNums (35 :: dyeL 1 (ds.take p))) ∧ p ≤ ds.length ∧ Hid ((ds.take p).all hexI = true)) (fun _ wr => s.size - wr.iterPos w.heap.size)
    case atStart => exact ⟨0, World.iter_heap w s 0, Below.iter hb2 (Nat.le_refl _) s 0, by rw [← H35.out], Nat.zero_le _, rfl⟩
    case round =>
      obtain ⟨p, hit, hbw, rfl, hp, HDG⟩ := hrel
      clear H35
      by_cases hlt : p < ds.length
      · have hps : p < s.size := by rw [← HSZ.out]; exact hlt
        have hnx : ∀ ty, (Instr.next (.pointer (some ⟨w.heap.size, 0, none⟩)) true ty).run Tryz.prog wr = _ := fun ty => Lib.run_next_any_at wr w.heap.size s p ty hit hps
        have hit3 := Lib.iterAt_heap wr w.heap.size s p (p + (Utf8.decode s p).2) hit
        have hbw3 := Lib.below_iterAt hbw (k := w.heap.size) (Nat.le_refl _) s (p + (Utf8.decode s p).2)
        have HTK : Hid (ds.take (p + 1) = ds.take p ++ [ds.getD p 0]) := by
          show _ = _
          rw [List.take_add_one]
          simp [List.getD, hlt]
        have HMEM : Hid (ds.getD p 0 ∈ ds) := by
          show _ ∈ _
          simp [List.getD, hlt]
        have hsz2 : (strOfNums (35 :: dyeL 1 (ds.take p))).size ≤ 100 := by
          rw [W.strOf_size, List.length_cons, dye_len, List.length_take]
          have := HSZ.out
          omega
        rcases HDEC.out p hps with ⟨hc1, hdc, hwd⟩ | ⟨hnd, hdz, hmx⟩
        · rw [hwd] at hnx hit3 hbw3
          rw [hdc] at hnx
          have hbd := hexI_bd hc1
          have HS : Hid (strOfNums (35 :: dyeL 1 (ds.take (p + 1))) = strOfNums (35 :: dyeL 1 (ds.take p)) ++ strOfNums (List.replicate 1 (lowZ (ds.getD p 0)))) := by
            show _ = _
            rw [HTK.out, dye_snoc, ← W.nums_two]
            rfl
          have HD2 : Hid ((ds.take (p + 1)).all hexI = true) := by
            show _ = _
            rw [HTK.out, List.all_append, HDG.out]
            simp only [List.all_cons, List.all_nil, Bool.true_and, Bool.and_true]
            exact hc1
          have hhx := hex_any (ds.getD p 0) (wr.iterAt w.heap.size s (p + 1)) (by omega)
          have hge : decide (hexZ (ds.getD p 0) < 0) = false := decide_eq_false (by have := of_decide_eq_true hc1; omega)
          have henc := enc_of (c := ds.getD p 0) (by omega) (by omega)
          have hfo := fun w => fold_any (strOfNums [ds.getD p 0]) w (by rw [W.strOf_size]; simp)
          rw [low_of (by omega) (by omega)] at hfo
          have hrp := fun w => repeat_any (strOfNums [lowZ (ds.getD p 0)]) 1 (by decide) (by rw [W.strOf_size]; rfl) w
          rw [rep_of] at hrp
          have hsz3 : (strOfNums (List.replicate 1 (lowZ (ds.getD p 0)))).size ≤ 2 := by rw [W.strOf_size, List.length_replicate]; decide
          have HFO := L.hid_mk hfo
          have HRP := L.hid_mk hrp
          generalize strOfNums (List.replicate 1 (lowZ (ds.getD p 0))) = rs at *
          generalize strOfNums [lowZ (ds.getD p 0)] = ls at *
          generalize strOfNums [ds.getD p 0] = es at *
          generalize hexZ (ds.getD p 0) = hx at *
          generalize ds.getD p 0 = c at *
          generalize wr.iterAt w.heap.size s (p + 1) = W3 at *
          have hme : s.size - W3.iterPos w.heap.size < s.size - wr.iterPos w.heap.size := by
            simp only [World.iterPos, hit3, hit]
            omega
          generalize strOfNums (35 :: dyeL 1 (ds.take p)) = os at *
          clear hdc hwd hit hbw hfo hrp hc1
          go_wp2_with (go_at_call 144; fail)
          refine (hhx).mono ?_
          rintro e w' ⟨rfl, rfl⟩
          go_wp2_with (go_at_call 72; fail)
          refine (HFO.out _).mono ?_
          rintro e w4 ⟨rfl, hb4⟩
          go_wp2_with (go_at_call 170; fail)
          refine (HRP.out _).mono ?_
          rintro e w5 ⟨rfl, hb5⟩
          have hb6 : Below W3.heap.size W3 w5 := hb4.trans (hb5.mono hb4.size)
          have hit5 : w5.heap[w.heap.size]? = some (.stringIter s (p + 1)) := (hb6.block _ (Array.getElem?_eq_some_iff.1 hit3).1).trans hit3
          have hbw5 : Below w.heap.size w w5 := hbw3.trans (hb6.mono hbw3.size)
          have hme5 : s.size - w5.iterPos w.heap.size < s.size - wr.iterPos w.heap.size := by
            have : w5.iterPos w.heap.size = W3.iterPos w.heap.size := by simp only [World.iterPos, hit3, hit5]
            rw [this]; exact hme
          clear hb4 hb5 hb6
          go_wp2
          go_roundw
          case rel => exact ⟨p + 1, hit5, hbw5, congrArg Value.string HS.out.symm, by omega, HD2⟩
          case measure => exact hme5
        · have HNO : Hid (R = none) := by
            show _ = _
            rw [HR.out, if_neg]
            intro h
            have := List.all_eq_true.1 h _ HMEM.out
            rw [hnd] at this
            cases this
          have hhx := hex_any (((Utf8.decode s p).1 : Nat) : Int) (wr.iterAt w.heap.size s (p + (Utf8.decode s p).2)) (by omega)
          have hlt0 : decide (hexZ (((Utf8.decode s p).1 : Nat) : Int) < 0) = true := decide_eq_true hdz
          generalize hexZ (((Utf8.decode s p).1 : Nat) : Int) = hx at *
          generalize ((Utf8.decode s p).1 : Nat) = cd at *
          generalize wr.iterAt w.heap.size s (p + (Utf8.decode s p).2) = W3 at *
          generalize strOfNums (35 :: dyeL 1 (ds.take p)) = os at *
          clear hdz hnd hit hbw
          go_wp2_with (go_at_call 144; fail)
          refine (hhx).mono ?_
          rintro e w' ⟨rfl, rfl⟩
          go_wp2
          go_ret2
          exact ⟨by rw [HNO.out]; rfl, hbw3⟩
      · have hps : ¬ p < s.size := by rw [← HSZ.out]; exact hlt
        have hnx : ∀ ty, (Instr.next (.pointer (some ⟨w.heap.size, 0, none⟩)) true ty).run Tryz.prog wr = _ := fun ty => Lib.run_next_end_at wr w.heap.size s p ty hit hps
        have HE : Hid (ds.take p = ds) := by show ds.take p = ds; exact List.take_of_length_le (by omega)
        have HDD : Hid (R = some (strOfNums (35 :: dyeL 1 (ds.take p)))) := by
          show _ = _
          have h1 := HDG.out
          rw [HE.out] at h1 ⊢
          rw [HR.out, if_pos h1]
        generalize strOfNums (35 :: dyeL 1 (ds.take p)) = os at *
        go_wp2
        go_ret2
        exact ⟨by rw [HDD.out]; rfl, hbw⟩
set_option maxHeartbeats 400000 in
theorem dyed_any (s : ByteArray) (w : World) : Calls Tryz.prog 160 #[.string s] w fun e w' => e = .returned (res (dyedO s)) ∧ Below w.heap.size w w' := by
  by_cases h3 : s.size = 3
  · have : dyedO s = dyeS 2 s := by unfold dyedO; rw [if_pos h3]
    rw [this]
    exact dyed_three s w 2 (.inl ⟨h3, rfl⟩)
  · by_cases h6 : s.size = 6
    · have : dyedO s = dyeS 1 s := by unfold dyedO; rw [if_neg h3, if_pos h6]
      rw [this]
      exact dyed_three s w 1 (.inr ⟨h6, rfl⟩)
    · have HN : Hid (dyedO s = none) := by show _ = _; unfold dyedO; rw [if_neg h3, if_neg h6]
      generalize dyedO s = R at *
      have k1 : ((s.size : Int) == 3) = false := beq_eq_false_iff_ne.2 (by omega)
      have k2 : ((s.size : Int) == 6) = false := beq_eq_false_iff_ne.2 (by omega)
      clear h3 h6
      go_enter Tryz.func160, Tryz.ntmps160
      go_wp2
      go_ret2
      exact ⟨by rw [HN.out]; rfl, Below.refl _ _⟩
end Go.Proofs.YtlhdapckenjigaaGreatDoor.Z
namespace Go.Proofs.YtlhdapckenjigaaGreatDoor.Z
open Go.RowKit
open Go.Proofs.YtlhdapckenjigaaGreatDoor.L (T5 V VsAt t5Cells vCells cell_of_heap)
set_option maxRecDepth 100000

theorem ret_res {o : Option ByteArray} {s : ByteArray} {b : Bool} (h : res o = .tuple #[.string s, .bool b]) : Ending.returned (.tuple #[.string s, .bool b]) = .returned (res o) := by rw [h]
theorem res_form (o : Option ByteArray) : ∃ s b, res o = .tuple #[.string s, .bool b] ∧ s = o.getD noS ∧ b = o.isSome := ⟨_, _, rfl, rfl, rfl⟩
/-- A value as it is handed on. -/
def vA (t : T5) (kid : Value) : Value := .agg #[.int .i64 t.k, .string t.tx, .string t.un, .bool t.wh, .bool t.fl, kid]
def vB (t : T5) (kid : Value) : Obj := .cells #[.int .i64 t.k, .string t.tx, .string t.un, .bool t.wh, .bool t.fl, kid] 57

set_option maxHeartbeats 1000000 in
theorem color_any {w : World} (hc : Col w) (t : T5) (ka : Option Addr) (kn kc : Nat) (hz : t.tx.size ≤ 1000000) :
    Calls Tryz.prog 141 #[vA t (.slice ka kn kc)] w fun e w' => e = .returned (res (colorO t)) ∧ Below w.heap.size w w' := by
  obtain ⟨k, tx, un, wh, fl⟩ := t
  have hB : Below w.heap.size w (w.alloc (.cells #[.int .i64 k, .string tx, .string un, .bool wh, .bool fl, .slice ka kn kc] 57)) := (Below.refl _ w).alloc (Nat.le_refl _) _
  have hn := named_any (hc.keep hB) tx hz
  have hd := dyed_any tx (w.alloc (.cells #[.int .i64 k, .string tx, .string un, .bool wh, .bool fl, .slice ka kn kc] 57))
  have HB := L.hid_mk hB
  clear hB hc
  show Calls Tryz.prog 141 #[.agg #[.int .i64 k, .string tx, .string un, .bool wh, .bool fl, .slice ka kn kc]] w _
  by_cases h1 : k = 1
  · have HC : Hid (colorO ⟨k, tx, un, wh, fl⟩ = namedO tx) := by show _ = _; unfold colorO; rw [if_pos h1]
    rw [HC.out]
    obtain ⟨s, b, e, -, -⟩ := res_form (namedO tx)
    rw [e] at hn ⊢
    have k1 : (k == 1) = true := by rw [h1]; rfl
    clear h1 e HC hd
    go_enter Tryz.func141, Tryz.ntmps141
    go_wp2_with (go_at_call 159; fail)
    refine hn.mono ?_
    rintro e w1 ⟨rfl, hb1⟩
    have hb2 : Below w.heap.size w w1 := HB.out.trans (hb1.mono HB.out.size)
    clear hb1 hn
    go_wp2
    go_ret2
    exact ⟨rfl, hb2⟩
  · have k1 : (k == 1) = false := beq_eq_false_iff_ne.2 h1
    by_cases h4 : k = 4
    · have HC : Hid (colorO ⟨k, tx, un, wh, fl⟩ = dyedO tx) := by show _ = _; unfold colorO; rw [if_neg h1, if_pos h4]
      rw [HC.out]
      obtain ⟨s, b, e, -, -⟩ := res_form (dyedO tx)
      rw [e] at hd ⊢
      have k4 : (k == 4) = true := by rw [h4]; rfl
      clear h1 h4 e HC hn
      go_enter Tryz.func141, Tryz.ntmps141
      go_wp2_with (go_at_call 160; fail)
      refine hd.mono ?_
      rintro e w1 ⟨rfl, hb1⟩
      have hb2 : Below w.heap.size w w1 := HB.out.trans (hb1.mono HB.out.size)
      clear hb1 hd
      go_wp2
      go_ret2
      exact ⟨rfl, hb2⟩
    · have HC : Hid (colorO ⟨k, tx, un, wh, fl⟩ = none) := by show _ = _; unfold colorO; rw [if_neg h1, if_neg h4]
      rw [HC.out]
      have k4 : (k == 4) = false := beq_eq_false_iff_ne.2 h4
      clear h1 h4 HC hn hd
      go_enter Tryz.func141, Tryz.ntmps141
      go_wp2
      go_ret2
      exact ⟨rfl, HB.out⟩
end Go.Proofs.YtlhdapckenjigaaGreatDoor.Z
