/- nth.direction, nth.signAhead and nth.numberAhead, whatever the text. nth.numberAhead, whatever the text. nth.signAhead, whatever the text. strings.Trim at a cutset of one blank. text.Fold, whatever the text. -/
import Derived.Test.YtbeolmofnmnknaaGreatDoorNDigits
import Derived.Lib.DecodeN
import Derived.Lib.OthersKept
import Derived.Laws.Cover4
import Derived.BigQuiet
import Derived.Deep.QuietTactic
import Derived.Lib.RuneCount
import Derived.OwnWalk
import Derived.Laws.IdiomStrings
import Derived.Laws.BytesArg
namespace Go.Proofs.YtbeolmofnmnknaaGreatDoor.N
open Go.RowKit

def digitZ (c : Int) : Bool := decide (48 ≤ c) && decide (c ≤ 57)
set_option maxHeartbeats 400000 in
theorem digit_any (c : Int) (w : World) : Calls Tryz.prog 73 #[.int .i32 c] w fun e w' => e = .returned (.bool (digitZ c)) ∧ w = w' := by
  unfold digitZ
  by_cases h1 : 48 ≤ c
  · by_cases h2 : c ≤ 57
    · go_enter Tryz.func73, Tryz.ntmps73
      go_wp2
      go_ret
      exact ⟨by simp [h1, h2], rfl⟩
    · go_enter Tryz.func73, Tryz.ntmps73
      go_wp2
      go_ret
      exact ⟨by simp; omega, rfl⟩
  · go_enter Tryz.func73, Tryz.ntmps73
    go_wp2
    go_ret
    exact ⟨by simp; omega, rfl⟩
set_option maxHeartbeats 400000 in
theorem direction_m (w : World) : Calls Tryz.prog 123 #[.string ⟨#[45]⟩] w fun e w' => e = .returned (.int .i64 (-1)) ∧ w = w' := by
  go_enter Tryz.func123, Tryz.ntmps123
  go_wp2
  go_ret
  exact ⟨rfl, rfl⟩
set_option maxHeartbeats 400000 in
theorem direction_p (w : World) : Calls Tryz.prog 123 #[.string ⟨#[43]⟩] w fun e w' => e = .returned (.int .i64 1) ∧ w = w' := by
  go_enter Tryz.func123, Tryz.ntmps123
  go_wp2
  go_ret
  exact ⟨rfl, rfl⟩
set_option maxHeartbeats 400000 in
theorem direction_0 (w : World) : Calls Tryz.prog 123 #[.string ⟨#[]⟩] w fun e w' => e = .returned (.int .i64 1) ∧ w = w' := by
  go_enter Tryz.func123, Tryz.ntmps123
  go_wp2
  go_ret
  exact ⟨rfl, rfl⟩

def bytesL (a : ByteArray) : List Int := a.data.toList.map fun x => (x.toNat : Int)
theorem bytesL_size (a : ByteArray) : (bytesL a).length = a.size := by
  unfold bytesL
  rw [List.length_map]
  rfl
theorem bytesL_byte (a : ByteArray) : ∀ n ∈ bytesL a, 0 ≤ n ∧ n < 256 := by
  intro n hn
  unfold bytesL at hn
  obtain ⟨x, _, rfl⟩ := List.mem_map.1 hn
  have := x.toNat_lt
  omega
theorem empty_of {s : ByteArray} (h : s.size = 0) : s = ⟨#[]⟩ := by
  cases s with
  | mk d =>
    have h1 : d.size = 0 := h
    have h2 : d = #[] := by simpa using h1
    subst h2
    rfl
theorem strOf (s : ByteArray) : strOfNums (s.data.toList.map fun b => (b.toNat : Int)) = s := by
  cases s with
  | mk d =>
    have e : ((fun n : Int => UInt8.ofNat n.toNat) ∘ fun b : UInt8 => (b.toNat : Int)) = id := by
      funext b
      simp
    simp [strOfNums, e]

theorem bytesL_str (a : ByteArray) : strOfNums (bytesL a) = a := strOf a
theorem str_get {l : List Int} (hl : ∀ n ∈ l, 0 ≤ n ∧ n < 256) (j : Nat) : ((strOfNums l).get! j).toNat = (l.getD j 0).toNat := by
  by_cases hj : j < l.length
  · have hm : l.getD j 0 ∈ l := by simp [List.getD, hj]
    have hb := hl _ hm
    have e : (strOfNums l).get! j = UInt8.ofNat (l.getD j 0).toNat := by
      show (l.map fun n => UInt8.ofNat n.toNat).toArray[j]! = _
      rw [getElem!_pos _ j (by simpa using hj)]
      simp [List.getD, hj]
    rw [e]
    simp only [UInt8.toNat_ofNat']
    omega
  · have e : (strOfNums l).get! j = default := by
      show (l.map fun n => UInt8.ofNat n.toNat).toArray[j]! = _
      exact getElem!_neg _ j (by simpa using hj)
    rw [e]
    simp [List.getD, List.getElem?_eq_none (Nat.le_of_not_lt hj)]
    rfl

def Dig (l : List Int) : Prop := ∀ c ∈ l, 48 ≤ c ∧ c ≤ 57
def satZ (n : Int) (c : Int) : Int := if 1000000 < n * 10 + (c - 48) then 1000000 else n * 10 + (c - 48)
def satL (l : List Int) : Int := l.foldl satZ 0
theorem satZ_bd {n c : Int} (h0 : 0 ≤ n) (hc : 48 ≤ c) : 0 ≤ satZ n c ∧ satZ n c ≤ 1000000 := by
  unfold satZ
  split <;> omega
theorem satL_snoc (l : List Int) (c : Int) : satL (l ++ [c]) = satZ (satL l) c := by unfold satL; rw [List.foldl_append]; rfl
theorem satL_bd : ∀ (l : List Int), Dig l → 0 ≤ satL l ∧ satL l ≤ 1000000 := by
  intro l h
  unfold satL
  have : ∀ (l : List Int) (n : Int), 0 ≤ n → n ≤ 1000000 → Dig l → 0 ≤ l.foldl satZ n ∧ l.foldl satZ n ≤ 1000000 := by
    intro l
    induction l with
    | nil => intro n h0 h1 _; exact ⟨h0, h1⟩
    | cons c r ih =>
      intro n h0 _ hd
      have hb := satZ_bd h0 (hd c (by simp)).1
      exact ih _ hb.1 hb.2 (fun x hx => hd x (by simp [hx]))
  exact this l 0 (by omega) (by omega) h
theorem dec_byte (t : ByteArray) (p : Nat) (hp : p < t.size) : (48 ≤ (bytesL t).getD p 0 ∧ (bytesL t).getD p 0 ≤ 57 ∧ (((Utf8.decode t p).1 : Nat) : Int) = (bytesL t).getD p 0 ∧ (Utf8.decode t p).2 = 1) ∨ (¬ (48 ≤ (bytesL t).getD p 0 ∧ (bytesL t).getD p 0 ≤ 57) ∧ digitZ (((Utf8.decode t p).1 : Nat) : Int) = false) := by
  have hg : (bytesL t).getD p 0 = ((t.get! p).toNat : Int) := by
    have hs := str_get (bytesL_byte t) p
    rw [bytesL_str] at hs
    have hb : 0 ≤ (bytesL t).getD p 0 := (bytesL_byte t _ (by
      have : p < (bytesL t).length := by rw [bytesL_size]; exact hp
      simp [List.getD, this])).1
    omega
  rw [hg, Lib.decode_at]
  have hb := (t.get! p).toNat_lt
  generalize (t.get! p).toNat = b0 at *
  generalize (t.get! (p + 1)).toNat = b1
  generalize (t.get! (p + 2)).toNat = b2
  generalize (t.get! (p + 3)).toNat = b3
  by_cases h : 48 ≤ b0 ∧ b0 ≤ 57
  · left
    have e : Lib.decodeN (t.size - p) b0 b1 b2 b3 = (b0, 1) := by
      unfold Lib.decodeN
      rw [if_pos (by omega)]
    rw [e]
    exact ⟨by omega, by omega, rfl, rfl⟩
  · right
    refine ⟨by omega, ?_⟩
    have key : (((Lib.decodeN (t.size - p) b0 b1 b2 b3).1 : Nat) : Int) = b0 ∨ 128 ≤ (((Lib.decodeN (t.size - p) b0 b1 b2 b3).1 : Nat) : Int) := by
      unfold Lib.decodeN
      repeat' split
      all_goals (simp only; first | exact .inl trivial | omega)
    unfold digitZ
    simp
    omega
theorem byte_at (t : ByteArray) (p : Nat) (hp : p < t.size) : (bytesL t).getD p 0 = (((t[p]'hp).toNat : Nat) : Int) := by
  unfold bytesL
  have h1 : t.data[p]? = some (t.data[p]'hp) := Array.getElem?_eq_getElem hp
  simp [List.getD, h1]
  rfl
theorem digit_yes {c : Int} (h : 48 ≤ c ∧ c ≤ 57) : digitZ c = true := by unfold digitZ; simp; omega
/-- How many digits a text opens with. -/
def digN : List Int → Nat
  | [] => 0
  | c :: r => if digitZ c then digN r + 1 else 0
theorem digN_le : ∀ l : List Int, digN l ≤ l.length
  | [] => Nat.le_refl _
  | c :: r => by
    rw [digN]
    have := digN_le r
    split
    · rw [List.length_cons]
      omega
    · omega
/-- Where p digits stand ahead, and then none, they are all. -/
theorem digN_at : ∀ (l : List Int) (p : Nat), Dig (l.take p) → p ≤ l.length → (p = l.length ∨ digitZ (l.getD p 0) = false) → digN l = p
  | [], p, _, h, _ => by simp at h; simp [digN, h]
  | c :: r, 0, _, _, h => by
    rcases h with h | h
    · simp at h
    · rw [digN, if_neg]
      have h' : digitZ c = false := h
      rw [h']
      decide
  | c :: r, p + 1, hd, hl, h => by
    have hc := hd c (by simp)
    rw [digN, if_pos (digit_yes hc)]
    have ih := digN_at r p (fun x hx => hd x (by simp [hx])) (by simpa using hl) (by
      rcases h with h | h
      · left; simpa using h
      · right; exact h)
    rw [ih]

end Go.Proofs.YtbeolmofnmnknaaGreatDoor.N
namespace Go.Proofs.YtbeolmofnmnknaaGreatDoor.N
open Go.RowKit

theorem below_drewN3 (B : Nat) (w : World) (n : Nat) : Below B w (w.drewN n) := ⟨rfl, rfl, rfl, Nat.le_refl _, fun _ _ => rfl⟩
theorem ret3 {n m : Int} {a c : ByteArray} {x y : Bool} (h1 : n = m) (h2 : a = c) (h3 : x = y) : Ending.returned (.tuple #[.int .i64 n, .string a, .bool x]) = .returned (.tuple #[.int .i64 m, .string c, .bool y]) := by rw [h1, h2, h3]
theorem satZ_min (n c : Int) : satZ n c = min (n * 10 + (c - 48)) 1000000 := by
  unfold satZ
  split <;> omega
theorem extract_all (s : ByteArray) : s.extract s.size s.size = ⟨#[]⟩ := empty_of (by simp)

set_option maxHeartbeats 1000000 in
set_option maxRecDepth 100000 in
theorem numberAhead_any (s : ByteArray) (hs : s.size ≤ 1000000000000) (w : World) :
    Calls Tryz.prog 122 #[.string s] w fun e w' => e = .returned (.tuple #[.int .i64 (satL ((bytesL s).take (digN (bytesL s)))), .string (s.extract (digN (bytesL s)) s.size), .bool (decide (0 < digN (bytesL s)))]) ∧ Below w.heap.size w w' := by
  have HDEC := hid_mk (fun p hp => dec_byte s p hp)
  have HSZ := hid_mk (bytesL_size s)
  have hsne : s.size = 0 ∨ (s == ⟨#[]⟩) = false ∧ (s.toList == []) = false := by
    by_cases h : s.size = 0
    · exact .inl h
    · right
      have h3 : (s.toList == []) = false := by
        rw [Bool.eq_false_iff]
        intro h2
        rw [beq_iff_eq, ByteArray.toList_eq] at h2
        have h4 := congrArg List.length h2
        exact h (by simpa using h4)
      exact ⟨by rw [beq_toListBytes, ByteArray.toList_eq ⟨#[]⟩]; exact h3, h3⟩
  have HNE := hid_mk hsne
  clear hsne
  generalize hds : bytesL s = ds at *
  go_enter Tryz.func122, Tryz.ntmps122
  go_wp2
  go_loopw [5] (fun a5 wr => ∃ p : Nat, wr.heap[w.heap.size]? = some (.stringIter s p) ∧ Below w.heap.size w wr ∧ a5 = .int .i64 (satL (ds.take p)) ∧ p ≤ ds.length ∧ Dig (ds.take p)) (fun _ wr => s.size - wr.iterPos w.heap.size)
  case atStart => exact ⟨0, World.iter_heap w s 0, (Below.refl _ w).alloc (Nat.le_refl _) _, rfl, Nat.zero_le _, fun c hc => by simp at hc⟩
  case round =>
    obtain ⟨p, hit, hbw, rfl, hp, hdig⟩ := hrel
    have hsb := satL_bd (ds.take p) hdig
    have HDG := hid_mk hdig
    have HD := hid_mk (fun h => digN_at ds p hdig hp h)
    clear hdig hds
    by_cases hlt : p < ds.length
    · have hps : p < s.size := by rw [← HSZ.out]; exact hlt
      have hnx : ∀ ty, (Instr.next (.pointer (some ⟨w.heap.size, 0, none⟩)) true ty).run Tryz.prog wr = _ := fun ty => Lib.run_next_any_at wr w.heap.size s p ty hit hps
      have hit3 := Lib.iterAt_heap wr w.heap.size s p (p + (Utf8.decode s p).2) hit
      have hbw3 := Lib.below_iterAt hbw (k := w.heap.size) (Nat.le_refl _) s (p + (Utf8.decode s p).2)
      have HTK : Hid (ds.take (p + 1) = ds.take p ++ [ds.getD p 0]) := by
        show _ = _
        rw [List.take_add_one]
        simp [List.getD, hlt]
      rcases HDEC.out p hps with ⟨hc1, hc2, hdc, hwd⟩ | ⟨hnd, hdz⟩
      · rw [hwd] at hnx hit3 hbw3
        rw [hdc] at hnx
        have HS : Hid (satL (ds.take (p + 1)) = satZ (satL (ds.take p)) (ds.getD p 0)) := by
          show satL (ds.take (p + 1)) = _
          rw [HTK.out, satL_snoc]
        have HD2 : Hid (Dig (ds.take (p + 1))) := by
          show Dig _
          rw [HTK.out]
          intro c hc
          rcases List.mem_append.1 hc with hc | hc
          · exact HDG.out c hc
          · rw [List.mem_singleton.1 hc]
            exact ⟨hc1, hc2⟩
        have hdg := digit_any (ds.getD p 0) (wr.iterAt w.heap.size s (p + 1))
        rw [digit_yes ⟨hc1, hc2⟩] at hdg
        generalize ds.getD p 0 = c at *
        generalize wr.iterAt w.heap.size s (p + 1) = W3 at *
        have hm : s.size - W3.iterPos w.heap.size < s.size - wr.iterPos w.heap.size := by
          simp only [World.iterPos, hit3, hit]
          omega
        clear hdc hwd hit hbw
        generalize satL (ds.take p) = sn at *
        go_wp2_with (go_at_call 73; fail)
        refine (hdg).mono ?_
        rintro e w' ⟨rfl, rfl⟩
        go_wp2
        go_roundw
        case rel => exact ⟨p + 1, hit3, hbw3, congrArg (Value.int .i64) ((satZ_min _ _).symm.trans HS.out.symm), by omega, HD2.out⟩
        case measure => exact hm
      · have HP : Hid (digN ds = p) := HD.out (.inr (by
          cases h : digitZ (ds.getD p 0)
          · rfl
          · unfold digitZ at h
            simp at h
            exact absurd h (by simpa using hnd)))
        have hdg := digit_any (((Utf8.decode s p).1 : Nat) : Int) (wr.iterAt w.heap.size s (p + (Utf8.decode s p).2))
        rw [hdz] at hdg
        generalize ((Utf8.decode s p).1 : Nat) = cd at *
        generalize wr.iterAt w.heap.size s (p + (Utf8.decode s p).2) = W3 at *
        clear hdz hnd hit hbw
        have HSN : Hid (satL (ds.take (digN ds)) = satL (ds.take p)) := by show _ = _; rw [HP.out]
        generalize satL (ds.take p) = sn at *
        go_wp2_with (go_at_call 73; fail)
        refine (hdg).mono ?_
        rintro e w' ⟨rfl, rfl⟩
        go_wp2
        go_quiet (fail)
        go_wp2
        go_ret3
        exact ⟨ret3 HSN.out.symm (by rw [HP.out]) (by rw [HP.out]; first | done | simp), hbw3.trans (below_drewN3 _ _ _)⟩
    · have hps : ¬ p < s.size := by rw [← HSZ.out]; exact hlt
      have hnx : ∀ ty, (Instr.next (.pointer (some ⟨w.heap.size, 0, none⟩)) true ty).run Tryz.prog wr = _ := fun ty => Lib.run_next_end_at wr w.heap.size s p ty hit hps
      have HP : Hid (digN ds = p) := HD.out (.inl (by omega))
      have HPS : Hid (p = s.size) := by show _ = _; rw [← HSZ.out]; omega
      have HSN : Hid (satL (ds.take (digN ds)) = satL (ds.take p)) := by show _ = _; rw [HP.out]
      generalize satL (ds.take p) = sn at *
      rcases HNE.out with h0 | ⟨n1, n2⟩
      · have e0 := empty_of h0
        subst e0
        go_wp2
        go_ret3
        exact ⟨ret3 HSN.out.symm (by rw [HP.out, HPS.out]; exact (extract_all ⟨#[]⟩).symm) (by rw [HP.out, HPS.out]; rfl), hbw⟩
      · have hp0 : 0 < p := by
          by_cases h : s.size = 0
          · have e0 := empty_of h
            subst e0
            exact absurd n2 (by rw [ByteArray.toList_eq]; decide)
          · rw [HPS.out]
            omega
        go_wp2
        go_ret3
        exact ⟨ret3 HSN.out.symm (by rw [HP.out, HPS.out]; exact (extract_all s).symm) (by rw [HP.out]; simp [hp0]), hbw⟩

end Go.Proofs.YtbeolmofnmnknaaGreatDoor.N
namespace Go.Proofs.YtbeolmofnmnknaaGreatDoor.N
open Go.RowKit

theorem get_at (s : ByteArray) (h0 : 0 < s.size) : s.get! 0 = s[0]'h0 := by
  show s.data[0]! = s.data[0]
  rw [getElem!_pos s.data 0 h0]
theorem first_byte (s : ByteArray) (h0 : 0 < s.size) : s.extract 0 1 = ⟨#[s[0]'h0]⟩ := by
  apply ByteArray.ext
  apply Array.ext
  · simp
    have : 0 < s.data.size := h0
    omega
  · intro i h1 h2
    have hi : i = 0 := by
      have : i < 1 := h2
      omega
    subst hi
    simp
    rfl
theorem first_list (s : ByteArray) (h0 : 0 < s.size) (c : UInt8) : ((s.extract 0 1).toList == [c]) = ((s[0]'h0) == c) := by
  rw [first_byte s h0, ByteArray.toList_eq]
  simp
/-- The sign ahead, and what is behind. -/
def sgnZ (s : ByteArray) : ByteArray × ByteArray := if h : 0 < s.size then (if (s[0]'h).toNat = 43 then (⟨#[43]⟩, s.extract 1 s.size) else if (s[0]'h).toNat = 45 then (⟨#[45]⟩, s.extract 1 s.size) else (⟨#[]⟩, s)) else (⟨#[]⟩, s)
theorem ret_ss {a b c d : ByteArray} (h1 : a = c) (h2 : b = d) : Ending.returned (.tuple #[.string a, .string b]) = .returned (.tuple #[.string c, .string d]) := by rw [h1, h2]

set_option maxHeartbeats 400000 in
theorem signAhead_any (s : ByteArray) (w : World) : Calls Tryz.prog 121 #[.string s] w fun e w' => e = .returned (.tuple #[.string (sgnZ s).1, .string (sgnZ s).2]) ∧ Below w.heap.size w w' := by
  have hB : Below w.heap.size w w := Below.refl _ w
  by_cases h0 : 0 < s.size
  · have f1 := first_list s h0 43
    have f2 := first_list s h0 45
    have fb := first_byte s h0
    have h1 : (1 : Int) ≤ (s.size : Int) := by omega
    by_cases h43 : (s[0]'h0).toNat = 43
    · have e43 : (s[0]'h0) = 43 := UInt8.toNat_inj.1 h43
      have HS : Hid (sgnZ s = (⟨#[43]⟩, s.extract 1 s.size)) := by
        show _ = _
        unfold sgnZ
        rw [dif_pos h0, if_pos h43]
      have HF : Hid (s.extract 0 1 = ⟨#[43]⟩) := by show _ = _; rw [fb, e43]
      have z1 : ((s.extract 0 1).toList == [43]) = true := by rw [f1, e43]; rfl
      clear f1 f2 fb h43 e43
      go_enter Tryz.func121, Tryz.ntmps121
      go_wp2
      go_quiet (fail)
      go_wp2
      go_ret2
      exact ⟨ret_ss (by rw [HS.out, HF.out]) (by rw [HS.out]), hB.trans (below_drewN3 _ _ _)⟩
    · have n43 : ((s[0]'h0) == 43) = false := by
        rw [Bool.eq_false_iff]
        intro h
        have : (s[0]'h0) = 43 := by simpa using h
        rw [this] at h43
        exact h43 rfl
      by_cases h45 : (s[0]'h0).toNat = 45
      · have e45 : (s[0]'h0) = 45 := UInt8.toNat_inj.1 h45
        have HS : Hid (sgnZ s = (⟨#[45]⟩, s.extract 1 s.size)) := by
          show _ = _
          unfold sgnZ
          rw [dif_pos h0, if_neg h43, if_pos h45]
        have HF : Hid (s.extract 0 1 = ⟨#[45]⟩) := by show _ = _; rw [fb, e45]
        have z1 : ((s.extract 0 1).toList == [43]) = false := by rw [f1, n43]
        have z2 : ((s.extract 0 1).toList == [45]) = true := by rw [f2, e45]; rfl
        clear f1 f2 fb h43 h45 e45 n43
        go_enter Tryz.func121, Tryz.ntmps121
        go_wp2
        go_quiet (fail)
        go_wp2
        go_ret2
        exact ⟨ret_ss (by rw [HS.out, HF.out]) (by rw [HS.out]), hB.trans (below_drewN3 _ _ _)⟩
      · have HS : Hid (sgnZ s = (⟨#[]⟩, s)) := by
          show _ = _
          unfold sgnZ
          rw [dif_pos h0, if_neg h43, if_neg h45]
        have n45 : ((s[0]'h0) == 45) = false := by
          rw [Bool.eq_false_iff]
          intro h
          have : (s[0]'h0) = 45 := by simpa using h
          rw [this] at h45
          exact h45 rfl
        have z1 : ((s.extract 0 1).toList == [43]) = false := by rw [f1, n43]
        have z2 : ((s.extract 0 1).toList == [45]) = false := by rw [f2, n45]
        clear f1 f2 fb h43 h45 n43 n45
        go_enter Tryz.func121, Tryz.ntmps121
        go_wp2
        go_ret2
        exact ⟨ret_ss (by rw [HS.out]) (by rw [HS.out]), hB⟩
  · have e0 := empty_of (show s.size = 0 by omega)
    subst e0
    go_enter Tryz.func121, Tryz.ntmps121
    go_wp2
    go_ret2
    exact ⟨rfl, hB⟩

end Go.Proofs.YtbeolmofnmnknaaGreatDoor.N
namespace Go.Proofs.YtbeolmofnmnknaaGreatDoor.N
open Go.RowKit

def leftL : List Int → List Int
  | [] => []
  | c :: r => if c = 32 then leftL r else c :: r
def rightL (l : List Int) : List Int := (leftL l.reverse).reverse

set_option maxHeartbeats 400000 in
set_option maxRecDepth 100000 in
theorem trimLeft_any (l : List Int) (hl : ∀ n ∈ l, 0 ≤ n ∧ n < 256) (hn : l.length ≤ 1000000000000) (w : World) :
    Calls Tryz.prog 114 #[.string (strOfNums l), .int .u8 32] w fun e w' => e = .returned (.string (strOfNums (leftL l))) ∧ w = w' := by
  go_enter Tryz.func114, Tryz.ntmps114
  go_wp2
  go_loop [0] (fun a0 => ∃ m : List Int, a0 = .string (strOfNums m) ∧ leftL m = leftL l ∧ m.length ≤ l.length ∧ ∀ n ∈ m, 0 ≤ n ∧ n < 256) (fun a0 => match a0 with | .string s => s.size | _ => 0)
  case atStart => exact ⟨l, rfl, rfl, Nat.le_refl _, hl⟩
  case round =>
    obtain ⟨m, rfl, hm, hml, hmb⟩ := hrel
    have HM := hid_mk hm
    clear hm
    have hsz := strOf_size m
    cases m with
    | nil =>
      have HR : Hid (leftL l = []) := HM.out.symm
      have he : strOfNums [] = ⟨#[]⟩ := rfl
      rw [he]
      clear hsz
      go_wp2
      go_ret
      exact ⟨by rw [HR.out]; rfl, rfl⟩
    | cons c r =>
      have h0 : 0 < (strOfNums (c :: r)).size := by rw [hsz]; simp
      have hc := hmb c (by simp)
      have hg : (((strOfNums (c :: r))[0]'h0).toNat : Int) = c := by
        have h1 := get_at (strOfNums (c :: r)) h0
        have h2 := str_get hmb 0
        rw [h1] at h2
        have h3 : ((c :: r).getD 0 0) = c := rfl
        rw [h3] at h2
        omega
      have HX : Hid ((strOfNums (c :: r)).extract 1 (strOfNums (c :: r)).size = strOfNums r) := by
        show _ = _
        rw [hsz]
        apply ByteArray.ext
        simp [strOfNums]
        exact List.take_of_length_le (by simp)
      have HLEN : Hid ((strOfNums (c :: r)).size = r.length + 1) := by show _ = _; rw [hsz]; rfl
      have hsb : (strOfNums (c :: r)).size ≤ 1000000000000 := by rw [hsz]; omega
      clear hsz
      generalize hse : strOfNums (c :: r) = s at *
      have HSE := hid_mk hse
      clear hse
      by_cases h32 : c = 32
      · have z1 : (((s[0]'h0).toNat : Int) == 32) = true := by rw [hg, h32]; rfl
        have HL : Hid (leftL r = leftL l) := by
          show _ = _
          rw [← HM.out, leftL, if_pos h32]
        clear hg
        go_wp2
        go_round
        case rel => exact ⟨r, congrArg Value.string HX.out, HL.out, by simp at hml; omega, fun n hn => hmb n (by simp [hn])⟩
        case measure =>
          show (s.extract 1 s.size).size < s.size
          rw [HX.out, strOf_size, HLEN.out]
          omega
      · have z1 : (((s[0]'h0).toNat : Int) == 32) = false := by rw [hg]; simpa using h32
        have HL : Hid (strOfNums (leftL l) = s) := by
          show _ = _
          rw [← HM.out, leftL, if_neg h32]
          exact HSE.out
        clear hg
        go_wp2
        go_ret
        exact ⟨by rw [HL.out]; rfl, rfl⟩

theorem nil_or_snoc (m : List Int) : m = [] ∨ ∃ r c, m = r ++ [c] := by
  rcases List.eq_nil_or_concat m with h | ⟨r, c, h⟩
  · exact .inl h
  · exact .inr ⟨r, c, by rw [h, List.concat_eq_append]⟩
theorem rightL_snoc (m : List Int) (c : Int) : rightL (m ++ [c]) = if c = 32 then rightL m else m ++ [c] := by
  unfold rightL
  rw [List.reverse_append, List.reverse_singleton, List.singleton_append, leftL]
  split
  · rfl
  · simp
theorem str_last (m : List Int) (c : Int) (hb : ∀ n ∈ m ++ [c], 0 ≤ n ∧ n < 256) (h : m.length < (strOfNums (m ++ [c])).size) : (((strOfNums (m ++ [c]))[m.length]'h).toNat : Int) = c := by
  have h1 : (strOfNums (m ++ [c])).get! m.length = (strOfNums (m ++ [c]))[m.length]'h := by
    show (strOfNums (m ++ [c])).data[m.length]! = (strOfNums (m ++ [c])).data[m.length]
    rw [getElem!_pos (strOfNums (m ++ [c])).data m.length h]
  have h2 := str_get hb m.length
  rw [h1] at h2
  have h3 : (m ++ [c]).getD m.length 0 = c := by simp [List.getD]
  rw [h3] at h2
  have hc := hb c (by simp)
  omega
set_option maxHeartbeats 400000 in
set_option maxRecDepth 100000 in
theorem trimRight_any (l : List Int) (hl : ∀ n ∈ l, 0 ≤ n ∧ n < 256) (hn : l.length ≤ 1000000000000) (w : World) :
    Calls Tryz.prog 115 #[.string (strOfNums l), .int .u8 32] w fun e w' => e = .returned (.string (strOfNums (rightL l))) ∧ w = w' := by
  go_enter Tryz.func115, Tryz.ntmps115
  go_wp2
  go_loop [0] (fun a0 => ∃ m : List Int, a0 = .string (strOfNums m) ∧ rightL m = rightL l ∧ m.length ≤ l.length ∧ ∀ n ∈ m, 0 ≤ n ∧ n < 256) (fun a0 => match a0 with | .string s => s.size | _ => 0)
  case atStart => exact ⟨l, rfl, rfl, Nat.le_refl _, hl⟩
  case round =>
    obtain ⟨m, rfl, hm, hml, hmb⟩ := hrel
    have HM := hid_mk hm
    clear hm
    have hsz := strOf_size m
    rcases (show m = [] ∨ ∃ r c, m = r ++ [c] by exact nil_or_snoc m) with rfl | ⟨r, c, rfl⟩
    · have HR : Hid (rightL l = []) := HM.out.symm
      have he : strOfNums [] = ⟨#[]⟩ := rfl
      rw [he]
      clear hsz
      go_wp2
      go_ret
      exact ⟨by rw [HR.out]; rfl, rfl⟩
    · have hlast : r.length < (strOfNums (r ++ [c])).size := by rw [hsz]; simp
      have hg := str_last r c hmb hlast
      have HX : Hid ((strOfNums (r ++ [c])).extract 0 r.length = strOfNums r) := by
        show _ = _
        apply ByteArray.ext
        simp [strOfNums]
      have hlen : (strOfNums (r ++ [c])).size = r.length + 1 := by rw [hsz]; simp
      have hrl : r.length + 1 ≤ 1000000000000 := by simp at hml; omega
      clear hsz
      generalize hse : strOfNums (r ++ [c]) = s at *
      have HSE := hid_mk hse
      clear hse
      by_cases h32 : c = 32
      · have z1 : (((s[r.length]'hlast).toNat : Int) == 32) = true := by rw [hg, h32]; rfl
        have HL : Hid (rightL r = rightL l) := by
          show _ = _
          rw [← HM.out, rightL_snoc, if_pos h32]
        clear hg
        go_wp2
        go_round
        case rel => exact ⟨r, congrArg Value.string HX.out, HL.out, by simp at hml; omega, fun n hn => hmb n (by simp [hn])⟩
        case measure =>
          show (s.extract 0 r.length).size < s.size
          rw [HX.out, strOf_size, hlen]
          omega
      · have z1 : (((s[r.length]'hlast).toNat : Int) == 32) = false := by rw [hg]; simpa using h32
        have HL : Hid (strOfNums (rightL l) = s) := by
          show _ = _
          rw [← HM.out, rightL_snoc, if_neg h32]
          exact HSE.out
        clear hg
        go_wp2
        go_ret
        exact ⟨by rw [HL.out]; rfl, rfl⟩

theorem leftL_byte : ∀ (l : List Int), (∀ n ∈ l, 0 ≤ n ∧ n < 256) → ∀ n ∈ leftL l, 0 ≤ n ∧ n < 256
  | [], _, n, hn => by cases hn
  | c :: r, h, n, hn => by
    rw [leftL] at hn
    split at hn
    · exact leftL_byte r (fun m hm => h m (by simp [hm])) n hn
    · exact h n hn
theorem rightL_byte (l : List Int) (h : ∀ n ∈ l, 0 ≤ n ∧ n < 256) : ∀ n ∈ rightL l, 0 ≤ n ∧ n < 256 := by
  intro n hn
  unfold rightL at hn
  exact leftL_byte l.reverse (fun m hm => h m (by simpa using hm)) n (by simpa using hn)
theorem leftL_len : ∀ l : List Int, (leftL l).length ≤ l.length
  | [] => Nat.le_refl _
  | c :: r => by
    rw [leftL]
    have := leftL_len r
    split
    · rw [List.length_cons]; omega
    · exact Nat.le_refl _
theorem rightL_len (l : List Int) : (rightL l).length ≤ l.length := by
  unfold rightL
  have := leftL_len l.reverse
  simpa using this
set_option maxHeartbeats 400000 in
set_option maxRecDepth 100000 in
/-- strings.Trim of blanks. -/
theorem trim_any (l : List Int) (hl : ∀ n ∈ l, 0 ≤ n ∧ n < 256) (hn : l.length ≤ 1000000000000) (w : World) :
    Calls Tryz.prog 109 #[.string (strOfNums l), .string ⟨#[32]⟩] w fun e w' => e = .returned (.string (strOfNums (leftL (rightL l)))) ∧ Below w.heap.size w w' := by
  have hr := fun w => trimRight_any l hl hn w
  have hle := fun w => trimLeft_any (rightL l) (rightL_byte l hl) (Nat.le_trans (rightL_len l) hn) w
  have hsz := strOf_size l
  cases l with
  | nil =>
    have he : strOfNums [] = ⟨#[]⟩ := rfl
    rw [he]
    clear hsz hr hle
    go_enter Tryz.func109, Tryz.ntmps109
    go_wp2
    go_ret
    exact ⟨rfl, Below.refl _ w⟩
  | cons c r =>
    have h0 : 0 < (strOfNums (c :: r)).size := by rw [hsz]; simp
    have h3 : ((strOfNums (c :: r)).toList == []) = false := by
      rw [Bool.eq_false_iff]
      intro h2
      rw [beq_iff_eq, ByteArray.toList_eq] at h2
      have h4 := congrArg List.length h2
      have h5 : (strOfNums (c :: r)).size = 0 := by simpa using h4
      omega
    have h4 : (strOfNums (c :: r) == ⟨#[]⟩) = false := by rw [beq_toListBytes, ByteArray.toList_eq ⟨#[]⟩]; exact h3
    generalize strOfNums (leftL (rightL (c :: r))) = T at *
    generalize strOfNums (rightL (c :: r)) = R at *
    generalize strOfNums (c :: r) = s at *
    clear hsz hl hn h0
    have hb32 : (((⟨#[32]⟩ : ByteArray)[0]'(by decide)).toNat : Int) = 32 := rfl
    go_enter Tryz.func109, Tryz.ntmps109
    go_wp2
    go_quiet (first | (go_at_call 115; refine Calls.quiet_of_same ((hr _).mono fun _ _ ⟨x, y⟩ => ⟨x, y.symm⟩)) | (go_at_call 114; refine Calls.quiet_of_same ((hle _).mono fun _ _ ⟨x, y⟩ => ⟨x, y.symm⟩)))
    go_wp2
    go_ret
    exact ⟨rfl, below_drewN3 _ _ _⟩

end Go.Proofs.YtbeolmofnmnknaaGreatDoor.N
namespace Go.Proofs.YtbeolmofnmnknaaGreatDoor.N
open Go.RowKit

theorem getD_bytes (s : ByteArray) (j : Nat) (h : j < s.size) : (s.data.toList.map fun b => (b.toNat : Int)).getD j 0 = ((s.get! j).toNat : Int) := by
  cases s with
  | mk d =>
    have h' : j < d.size := h
    simp [List.getD, ByteArray.get!, getElem!_pos, h']

theorem conv {w : World} {b off cap : Nat} {s : ByteArray} (hc : ∀ j, j < s.size → w.cell? ⟨b, off + j, none⟩ = some (.int .u8 (s.get! j).toNat)) :
    (convert 56 9 (.slice (some ⟨b, off, none⟩) s.size cap)).run Tryz.prog w = .ok (.string s) w := by
  have := run_convert_bytes_arg (P := Tryz.prog) w 56 5 Tryz.underlying56 Tryz.underlying5 b off s.size cap (s.data.toList.map fun b => (b.toNat : Int)) (by rw [List.length_map]; rfl) (fun i hi => by rw [getD_bytes s i hi]; exact hc i hi) 9 Tryz.underlying9
  rw [strOf] at this
  exact this

def foldN (c : Nat) : Nat := if 65 ≤ c ∧ c ≤ 90 then c + 32 else c
def foldB (b : UInt8) : UInt8 := UInt8.ofNat (foldN b.toNat)
def foldS (s : ByteArray) : ByteArray := ⟨s.data.map foldB⟩

theorem foldB_nat (b : UInt8) : (foldB b).toNat = foldN b.toNat := by
  have := b.toNat_lt
  unfold foldB foldN
  split <;> simp <;> omega
theorem foldS_size (s : ByteArray) : (foldS s).size = s.size := by
  cases s with
  | mk d => exact Array.size_map
theorem foldS_get (s : ByteArray) (j : Nat) (h : j < s.size) : (foldS s).get! j = foldB (s.get! j) := by
  cases s with
  | mk d =>
    have h' : j < d.size := h
    simp [foldS, ByteArray.get!, getElem!_pos, h']
theorem foldS_twice (s : ByteArray) : foldS (foldS s) = foldS s := by
  cases s with
  | mk d =>
    simp only [foldS, Array.map_map]
    congr 1
    apply Array.map_congr_left
    intro b _
    apply UInt8.toNat.inj
    simp only [Function.comp, foldB_nat]
    unfold foldN
    have := b.toNat_lt
    repeat' split
    all_goals omega

/-- What the conversion of a string to bytes lays. -/
theorem bytesOf (s : ByteArray) (w : World) : ∃ g cap W, (convert 9 56 (.string s)).run Tryz.prog w = .ok (.slice (some ⟨g, 0, none⟩) s.size cap) W ∧ s.size ≤ cap ∧ w.heap.size ≤ g ∧
    (∀ j, j < s.size → W.cell? ⟨g, j, none⟩ = some (.int .u8 (s.get! j).toNat)) ∧ (∀ j, j < s.size → W.frozen? ⟨g, j, none⟩ = false) ∧ Below w.heap.size w W := by
  have hcv := run_bytes_of_string (P := Tryz.prog) w 9 56 5 s Tryz.underlying9 Tryz.underlying56 Tryz.underlying5
  have hge := grownCap_ge w s.size 0 5
  have hsz : (bytesRow s (grownCap w s.size 0 5)).size = grownCap w s.size 0 5 := by
    have : s.data.size = s.size := rfl
    simp [bytesRow]
    omega
  generalize grownCap w s.size 0 5 = cap at *
  have hnew : (w.drew.alloc (.cells (bytesRow s cap) 5 ((bytesRow s cap).size, (bytesRow s cap).size + 1))).heap[w.heap.size]? = some (.cells (bytesRow s cap) 5 ((bytesRow s cap).size, (bytesRow s cap).size + 1)) := heap_alloc_new w.drew _
  refine ⟨w.heap.size, cap, _, hcv, hge, Nat.le_refl _, fun j hj => ?_, fun j hj => ?_, ((Below.refl _ w).drew).alloc (Nat.le_refl _) _⟩
  · have hd : j < s.data.size := hj
    have hg : (bytesRow s cap)[j]? = some (.int .u8 (s.get! j).toNat) := by
      have hgs : s.get! j = s.data[j] := by
        cases s with
        | mk d => exact getElem!_pos d j hd
      rw [hgs]
      unfold bytesRow
      rw [Array.getElem?_append_left (by simpa using hd), Array.getElem?_map, Array.getElem?_eq_getElem hd]
      rfl
    simp only [World.cell?, hnew]
    exact hg
  · simp only [World.frozen?, hnew]
    simp
    omega

def FoldAt (s : ByteArray) (g k : Nat) (w : World) : Prop := ∀ j, j < s.size → w.cell? ⟨g, j, none⟩ = some (.int .u8 (if j < k then foldN (s.get! j).toNat else (s.get! j).toNat : Nat))

theorem fold_step {s : ByteArray} {g k : Nat} {w : World} (h : FoldAt s g k w) (hk : k < s.size) {x : Int} (hx : x = foldN (s.get! k).toNat) : FoldAt s g (k + 1) (w.setCell ⟨g, k, none⟩ (.int .u8 x)) := by
  intro j hj
  by_cases e : j = k
  · subst e
    rw [World.cell?_setCell_same _ _ _ (h j hj), if_pos (by omega), hx]
  · rw [World.cell?_setCell_other _ _ _ _ (by simp; try omega), h j hj]
    by_cases h1 : j < k
    · rw [if_pos h1, if_pos (by omega)]
    · rw [if_neg h1, if_neg (by omega)]

theorem fold_keep {s : ByteArray} {g k : Nat} {w : World} (h : FoldAt s g k w) (hx : foldN (s.get! k).toNat = (s.get! k).toNat) : FoldAt s g (k + 1) w := by
  intro j hj
  rw [h j hj]
  by_cases e : j = k
  · subst e
    rw [if_neg (by omega), if_pos (by omega), hx]
  · by_cases h1 : j < k
    · rw [if_pos h1, if_pos (by omega)]
    · rw [if_neg h1, if_neg (by omega)]

theorem fold_conv {s : ByteArray} {g cap : Nat} {w : World} (h : FoldAt s g s.size w) : (convert 56 9 (.slice (some ⟨g, 0, none⟩) s.size cap)).run Tryz.prog w = .ok (.string (foldS s)) w := by
  have := conv (w := w) (b := g) (off := 0) (cap := cap) (s := foldS s) (fun j hj => by
    rw [foldS_size] at hj
    rw [Nat.zero_add, h j hj, if_pos hj, foldS_get s j hj, foldB_nat])
  rw [foldS_size] at this
  exact this

set_option maxHeartbeats 4000000 in
set_option maxRecDepth 1000000 in
theorem fold_any (s : ByteArray) (w : World) (hs : s.size ≤ 1000000000000) :
    Calls Tryz.prog 61 #[.string s] w fun e w' => e = .returned (.string (foldS s)) ∧ Below w.heap.size w w' := by
  obtain ⟨g, cap, W, hcv, hcap, hg, hcell, hfr, hb⟩ := bytesOf s w
  go_enter Tryz.func61, Tryz.ntmps61
  go_wp2
  clear hcv
  go_loopw [10] (fun i wr => ∃ k : Nat, k ≤ s.size ∧ i = .int .i64 k ∧ FoldAt s g k wr ∧ (∀ j, j < s.size → wr.frozen? ⟨g, j, none⟩ = false) ∧ Below w.heap.size w wr) (fun i _ => s.size - (intOf i).toNat)
  case atStart => exact ⟨0, Nat.zero_le _, rfl, fun j hj => by simpa using hcell j hj, hfr, hb⟩
  case round =>
    clear hcell hfr hb
    obtain ⟨k, hk, rfl, hcell, hfr, hb⟩ := hrel
    by_cases hlt : k < s.size
    · obtain ⟨c, hc⟩ : ∃ c : Nat, (s.get! k).toNat = c := ⟨_, rfl⟩
      have ck : wr.cell? ⟨g, k, none⟩ = some (.int .u8 c) := by
        have := hcell k hlt
        rw [if_neg (Nat.lt_irrefl k), hc] at this
        exact this
      have fk := hfr k hlt
      have h256 : c < 256 := by rw [← hc]; exact (s.get! k).toNat_lt
      have HF : Hid (∀ j, j < s.size → wr.frozen? ⟨g, j, none⟩ = false) := hfr
      clear hfr
      by_cases h : 65 ≤ c ∧ c ≤ 90
      · have HX : Hid (((c : Int) + 32) = foldN (s.get! k).toNat) := by
          show _ = _
          rw [hc, foldN, if_pos h]
          omega
        obtain ⟨h1, h2⟩ := h
        clear hc
        go_wp2
        go_roundw
        case rel => exact ⟨k + 1, by omega, by go_num, fold_step hcell hlt (by rw [← HX.out]; try omega), fun j hj => by rw [World.frozen?_setCell]; exact HF.out j hj, hb.setCell hg _⟩
        case measure => simp [intOf]; omega
      · have HX : Hid (foldN (s.get! k).toNat = (s.get! k).toNat) := by
          show _ = _
          rw [hc, foldN, if_neg h]
        clear hc
        rcases (show c < 65 ∨ 90 < c by omega) with h1 | h1
        all_goals
          clear h
          go_wp2
          go_roundw
          case rel => exact ⟨k + 1, by omega, by go_num, fold_keep hcell HX.out, HF.out, hb⟩
          case measure => simp [intOf]; omega
    · have hks : k = s.size := by omega
      rw [hks] at hcell
      have hcv2 := fold_conv (cap := cap) hcell
      clear hks
      go_wp2
      go_ret
      exact ⟨rfl, hb⟩

end Go.Proofs.YtbeolmofnmnknaaGreatDoor.N
