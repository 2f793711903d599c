/- Int of any token, by the program and by the document; the document reads any text as a whole number. -/
import Derived.Test.YtlhdapckenjigaaGreatDoorNames
namespace Go.Proofs.YtlhdapckenjigaaGreatDoor.W
open Go.RowKit
set_option maxRecDepth 100000

def bytesL (a : ByteArray) : List Int := a.data.toList.map fun x => (x.toNat : Int)
theorem bytesL_size (a : ByteArray) : (bytesL a).length = a.size := by
  unfold bytesL
  rw [List.length_map]
  rfl
theorem bytesL_byte (a : ByteArray) : ∀ n ∈ bytesL a, 0 ≤ n ∧ n < 256 := by
  intro n hn
  unfold bytesL at hn
  obtain ⟨x, _, rfl⟩ := List.mem_map.1 hn
  have := x.toNat_lt
  omega
theorem bytesL_str (a : ByteArray) : strOfNums (bytesL a) = a := strOf a
theorem empty_of {s : ByteArray} (h : s.size = 0) : s = ⟨#[]⟩ := by
  cases s with
  | mk d =>
    have h1 : d.size = 0 := h
    have h2 : d = #[] := by simpa using h1
    subst h2
    rfl
def Dig (l : List Int) : Prop := ∀ c ∈ l, 48 ≤ c ∧ c ≤ 57
def digB (l : List Int) : Bool := l.all digitZ
theorem digB_iff (l : List Int) : digB l = true ↔ Dig l := by
  unfold digB Dig digitZ
  simp
def sgnB (s : ByteArray) : Bool := decide (0 < s.size) && ((s.get! 0).toNat == 43 || (s.get! 0).toNat == 45)
def negB (s : ByteArray) : Bool := decide (0 < s.size) && (s.get! 0).toNat == 45
def bodyS (s : ByteArray) : ByteArray := if sgnB s then s.extract 1 s.size else s
theorem get_at (s : ByteArray) (h0 : 0 < s.size) : s.get! 0 = s[0]'h0 := by
  show s.data[0]! = s.data[0]
  rw [getElem!_pos s.data 0 h0]
theorem str_nil {l : List Int} : (l = [] → (strOfNums l == ⟨#[]⟩) = true ∧ ((strOfNums l).toList == []) = true) ∧ (l ≠ [] → (strOfNums l == ⟨#[]⟩) = false ∧ ((strOfNums l).toList == []) = false) := by
  refine ⟨fun e => ?_, fun e => ?_⟩
  · subst e
    have h : ((strOfNums []).toList == []) = true := by rw [beq_iff_eq, ByteArray.toList_eq]; rfl
    exact ⟨by rw [beq_toListBytes, ByteArray.toList_eq ⟨#[]⟩]; exact h, h⟩
  · have h : ((strOfNums l).toList == []) = false := by
      rw [Bool.eq_false_iff]
      intro h
      rw [beq_iff_eq, ByteArray.toList_eq] at h
      have h2 := congrArg List.length h
      have h3 : (strOfNums l).size = 0 := by simpa using h2
      rw [strOf_size] at h3
      exact e (List.length_eq_zero_iff.1 h3)
    exact ⟨by rw [beq_toListBytes, ByteArray.toList_eq ⟨#[]⟩]; exact h, h⟩
theorem str_ne {s : ByteArray} (h : 0 < s.size) : (s == ⟨#[]⟩) = false ∧ (s.toList == []) = false := by
  have hne : bytesL s ≠ [] := by
    intro e
    have := bytesL_size s
    rw [e] at this
    simp at this
    omega
  have := (str_nil (l := bytesL s)).2 hne
  rw [bytesL_str] at this
  exact this

set_option maxHeartbeats 400000 in
theorem unsigned_any (s : ByteArray) (w : World) : Calls Tryz.prog 168 #[.string s] w fun e w' => e = .returned (.tuple #[.string (bodyS s), .bool (negB s)]) ∧ ∃ m, w' = w.drewN m := by
  by_cases h0 : 0 < s.size
  · obtain ⟨n1, n3⟩ := str_ne h0
    have hg := get_at s h0
    have es : sgnB s = ((s[0]'h0).toNat == 43 || (s[0]'h0).toNat == 45) := by unfold sgnB; rw [hg]; simp [h0]
    have en : negB s = ((s[0]'h0).toNat == 45) := by unfold negB; rw [hg]; simp [h0]
    by_cases h43 : (s[0]'h0).toNat = 43
    · have hb : bodyS s = s.extract 1 s.size := by unfold bodyS; rw [es, h43]; rfl
      have hn : negB s = false := by rw [en, h43]; rfl
      rw [hb, hn]
      have e1 : (((s[0]'h0).toNat : Int) != 43) = false := by rw [h43]; rfl
      have e3 : (((s[0]'h0).toNat : Int) == 45) = false := by rw [h43]; rfl
      clear h43 hb hn es en hg
      go_enter Tryz.func168, Tryz.ntmps168
      go_wp2
      go_quiet (fail)
      go_wp2
      go_ret2
      exact ⟨rfl, _, rfl⟩
    · by_cases h45 : (s[0]'h0).toNat = 45
      · have hb : bodyS s = s.extract 1 s.size := by unfold bodyS; rw [es, h45]; rfl
        have hn : negB s = true := by rw [en, h45]; rfl
        rw [hb, hn]
        have e1 : (((s[0]'h0).toNat : Int) != 43) = true := by rw [h45]; rfl
        have e2 : (((s[0]'h0).toNat : Int) != 45) = false := by rw [h45]; rfl
        have e3 : (((s[0]'h0).toNat : Int) == 45) = true := by rw [h45]; rfl
        clear h43 h45 hb hn es en hg
        go_enter Tryz.func168, Tryz.ntmps168
        go_wp2
        go_quiet (fail)
        go_wp2
        go_ret2
        exact ⟨rfl, _, rfl⟩
      · have hb : bodyS s = s := by unfold bodyS; rw [es]; simp [h43, h45]
        have hn : negB s = false := by rw [en]; simp [h45]
        rw [hb, hn]
        have e1 : (((s[0]'h0).toNat : Int) != 43) = true := by simp; omega
        have e2 : (((s[0]'h0).toNat : Int) != 45) = true := by simp; omega
        clear h43 h45 hb hn es en hg
        go_enter Tryz.func168, Tryz.ntmps168
        go_wp2
        go_ret2
        exact ⟨rfl, 0, rfl⟩
  · have e := empty_of (show s.size = 0 by omega)
    subst e
    have hb : bodyS ⟨#[]⟩ = ⟨#[]⟩ := rfl
    have hn : negB ⟨#[]⟩ = false := rfl
    rw [hb, hn]
    clear hb hn h0
    go_enter Tryz.func168, Tryz.ntmps168
    go_wp2
    go_ret2
    exact ⟨rfl, 0, rfl⟩

def satZ (n : Int) (c : Int) : Int := if 1000000 < n * 10 + (c - 48) then 1000000 else n * 10 + (c - 48)
def satL (l : List Int) : Int := l.foldl satZ 0
theorem satZ_bd {n c : Int} (h0 : 0 ≤ n) (hc : 48 ≤ c) : 0 ≤ satZ n c ∧ satZ n c ≤ 1000000 := by
  unfold satZ
  split <;> omega
theorem satL_snoc (l : List Int) (c : Int) : satL (l ++ [c]) = satZ (satL l) c := by unfold satL; rw [List.foldl_append]; rfl
theorem satL_bd : ∀ (l : List Int), Dig l → 0 ≤ satL l ∧ satL l ≤ 1000000 := by
  intro l h
  unfold satL
  have : ∀ (l : List Int) (n : Int), 0 ≤ n → n ≤ 1000000 → Dig l → 0 ≤ l.foldl satZ n ∧ l.foldl satZ n ≤ 1000000 := by
    intro l
    induction l with
    | nil => intro n h0 h1 _; exact ⟨h0, h1⟩
    | cons c r ih =>
      intro n h0 _ hd
      have hb := satZ_bd h0 (hd c (by simp)).1
      exact ih _ hb.1 hb.2 (fun x hx => hd x (by simp [hx]))
  exact this l 0 (by omega) (by omega) h
theorem hex_digit {c : Int} (h : 48 ≤ c ∧ c ≤ 57) : hexZ c = c - 48 := by unfold hexZ; rw [if_pos h]
theorem digit_yes {c : Int} (h : 48 ≤ c ∧ c ≤ 57) : digitZ c = true := by unfold digitZ; simp; omega
def negZ (b : Bool) (n : Int) : Int := if b then -n else n
/-- What Int tells of a text's body, whether it was below 0. -/
def intV (bl : Bool) (ds : List Int) : Int × Bool := if ds ≠ [] ∧ digB ds = true then (negZ bl (satL ds), true) else (0, false)
theorem dec_byte (t : ByteArray) (p : Nat) (hp : p < t.size) : (48 ≤ (bytesL t).getD p 0 ∧ (bytesL t).getD p 0 ≤ 57 ∧ (((Utf8.decode t p).1 : Nat) : Int) = (bytesL t).getD p 0 ∧ (Utf8.decode t p).2 = 1) ∨ (¬ (48 ≤ (bytesL t).getD p 0 ∧ (bytesL t).getD p 0 ≤ 57) ∧ digitZ (((Utf8.decode t p).1 : Nat) : Int) = false) := by
  have hg : (bytesL t).getD p 0 = ((t.get! p).toNat : Int) := by
    have hs := str_get (bytesL_byte t) p
    rw [bytesL_str] at hs
    have hb : 0 ≤ (bytesL t).getD p 0 := (bytesL_byte t _ (by
      have : p < (bytesL t).length := by rw [bytesL_size]; exact hp
      simp [List.getD, this])).1
    omega
  rw [hg, Lib.decode_at]
  have hb := (t.get! p).toNat_lt
  generalize (t.get! p).toNat = b0 at *
  generalize (t.get! (p + 1)).toNat = b1
  generalize (t.get! (p + 2)).toNat = b2
  generalize (t.get! (p + 3)).toNat = b3
  by_cases h : 48 ≤ b0 ∧ b0 ≤ 57
  · left
    have e : Lib.decodeN (t.size - p) b0 b1 b2 b3 = (b0, 1) := by
      unfold Lib.decodeN
      rw [if_pos (by omega)]
    rw [e]
    exact ⟨by omega, by omega, rfl, rfl⟩
  · right
    refine ⟨by omega, ?_⟩
    have key : (((Lib.decodeN (t.size - p) b0 b1 b2 b3).1 : Nat) : Int) = b0 ∨ 128 ≤ (((Lib.decodeN (t.size - p) b0 b1 b2 b3).1 : Nat) : Int) := by
      unfold Lib.decodeN
      repeat' split
      all_goals (simp only; first | exact .inl trivial | omega)
    unfold digitZ
    simp
    omega
theorem ret2_v {v : Int × Bool} {a : Int} {b : Bool} (h : v = (a, b)) : Ending.returned (.tuple #[.int .i64 a, .bool b]) = .returned (.tuple #[.int .i64 v.1, .bool v.2]) := by rw [h]

set_option maxHeartbeats 2000000 in
set_option maxRecDepth 100000 in
/-- Int of a token of a number's kind that is whole. -/
theorem int_whole (k : Int) (hk : k = 10 ∨ k = 11 ∨ k = 12) (s u : ByteArray) (fl : Bool) (hs : s.size ≤ 100000) (w : World) :
    Calls Tryz.prog 157 #[.agg #[.int .i64 k, .string s, .string u, .bool true, .bool fl]] w fun e w' => e = .returned (.tuple #[.int .i64 (intV (negB s) (bytesL (bodyS s))).1, .bool (intV (negB s) (bytesL (bodyS s))).2]) ∧ Below w.heap.size w w' := by
  have hun := fun w' => unsigned_any s w'
  have HUN := hid_mk hun
  have hB1 : Below w.heap.size w (w.alloc (.cells #[.int .i64 k, .string s, .string u, .bool true, .bool fl] 55)) := (Below.refl _ w).alloc (Nat.le_refl _) _
  have hlt : (bodyS s).size ≤ 100000 := by
    unfold bodyS
    split
    · have : (s.extract 1 s.size).size ≤ s.size := by simp
      omega
    · exact hs
  generalize negB s = bl at *
  generalize bodyS s = t at *
  have HDEC := hid_mk (fun p hp => dec_byte t p hp)
  have HSZ := hid_mk (bytesL_size t)
  have HV : Hid (intV bl (bytesL t) = intV bl (bytesL t)) := rfl
  clear hun
  have hk1 : (k == 10) = true ∨ ((k == 10) = false ∧ (k == 11) = true) ∨ ((k == 10) = false ∧ (k == 11) = false ∧ (k == 12) = true) := by
    rcases hk with rfl | rfl | rfl <;> decide
  clear hk HV
  by_cases h0 : 0 < t.size
  · obtain ⟨n1, n3⟩ := str_ne h0
    have HNE : Hid (bytesL t ≠ []) := by
      intro e
      have := HSZ.out
      rw [e] at this
      simp at this
      omega
    generalize hds : bytesL t = ds at *
    have HDS := hid_mk hds
    clear hds
    rcases hk1 with a1 | ⟨a1, a2⟩ | ⟨a1, a2, a3⟩
    all_goals
      go_enter Tryz.func157, Tryz.ntmps157
      go_wp2_with (go_at_call 168; fail)
      refine (HUN.out _).mono ?_
      rintro e w1 ⟨rfl, m1, rfl⟩
      have c3 : ((w.alloc (.cells #[.int .i64 k, .string s, .string u, .bool true, .bool fl] 55)).drewN m1).cell? ⟨w.heap.size, 3, none⟩ = some (.bool true) := by
        have h := heap_alloc_new w (.cells #[.int .i64 k, .string s, .string u, .bool true, .bool fl] 55)
        have h2 : ((w.alloc (.cells #[.int .i64 k, .string s, .string u, .bool true, .bool fl] 55)).drewN m1).heap[w.heap.size]? = some (.cells #[.int .i64 k, .string s, .string u, .bool true, .bool fl] 55 (0, 0)) := by rw [← h]; rfl
        simp only [World.cell?, h2]
        rfl
      have hb2 : Below w.heap.size w ((w.alloc (.cells #[.int .i64 k, .string s, .string u, .bool true, .bool fl] 55)).drewN m1) := hB1.trans ((Kept.drewN w.heap.size _ m1).below (by simp))
      generalize ((w.alloc (.cells #[.int .i64 k, .string s, .string u, .bool true, .bool fl] 55)).drewN m1) = w2 at *
      go_wp2
      go_loopw [6] (fun a6 wr => ∃ p : Nat, wr.heap[w2.heap.size]? = some (.stringIter t p) ∧ Below w.heap.size w wr ∧ a6 = .int .i64 (satL (ds.take p)) ∧ p ≤ ds.length ∧ Dig (ds.take p)) (fun _ wr => t.size - wr.iterPos w2.heap.size)
      case atStart => exact ⟨0, World.iter_heap w2 t 0, Below.iter hb2 hb2.size t 0, rfl, Nat.zero_le _, fun c hc => by simp at hc⟩
      case round =>
        obtain ⟨p, hit, hbw, rfl, hp, hdig⟩ := hrel
        have hsb := satL_bd (ds.take p) hdig
        have HDG := hid_mk hdig
        clear hdig
        by_cases hlt : p < ds.length
        · have hps : p < t.size := by rw [← HSZ.out]; exact hlt
          have hnx : ∀ ty, (Instr.next (.pointer (some ⟨w2.heap.size, 0, none⟩)) true ty).run Tryz.prog wr = _ := fun ty => Lib.run_next_any_at wr w2.heap.size t p ty hit hps
          have hit3 := Lib.iterAt_heap wr w2.heap.size t p (p + (Utf8.decode t p).2) hit
          have hbw3 := Lib.below_iterAt hbw (k := w2.heap.size) hb2.size t (p + (Utf8.decode t p).2)
          have HTK : Hid (ds.take (p + 1) = ds.take p ++ [ds.getD p 0]) := by
            show _ = _
            rw [List.take_add_one]
            simp [List.getD, hlt]
          have HMEM : Hid (ds.getD p 0 ∈ ds) := by
            show _ ∈ _
            simp [List.getD, hlt]
          rcases HDEC.out p hps with ⟨hc1, hc2, hdc, hwd⟩ | ⟨hnd, hdz⟩
          · rw [hwd] at hnx hit3 hbw3
            rw [hdc] at hnx
            have HS : Hid (satL (ds.take (p + 1)) = satZ (satL (ds.take p)) (ds.getD p 0)) := by
              show satL (ds.take (p + 1)) = _
              rw [HTK.out, satL_snoc]
            have HD2 : Hid (Dig (ds.take (p + 1))) := by
              show Dig _
              rw [HTK.out]
              intro c hc
              rcases List.mem_append.1 hc with hc | hc
              · exact HDG.out c hc
              · simp at hc
                rw [hc]
                exact ⟨hc1, hc2⟩
            have hdg := digit_any (ds.getD p 0) (wr.iterAt w2.heap.size t (p + 1))
            rw [digit_yes ⟨hc1, hc2⟩] at hdg
            have hhx := hex_any (ds.getD p 0) (wr.iterAt w2.heap.size t (p + 1)) (by omega)
            rw [hex_digit ⟨hc1, hc2⟩] at hhx
            generalize ds.getD p 0 = c at *
            generalize wr.iterAt w2.heap.size t (p + 1) = W3 at *
            have hm : t.size - W3.iterPos w2.heap.size < t.size - wr.iterPos w2.heap.size := by
              simp only [World.iterPos, hit3, hit]
              omega
            clear hdc hwd hit hbw
            generalize satL (ds.take p) = sn at *
            go_wp2_with (go_at_call 121; fail)
            refine (hdg).mono ?_
            rintro e w' ⟨rfl, rfl⟩
            go_wp2_with (go_at_call 144; fail)
            refine (hhx).mono ?_
            rintro e w' ⟨rfl, rfl⟩
            go_wp2
            go_roundw
            case rel => exact ⟨p + 1, hit3, hbw3, congrArg (Value.int .i64) HS.out.symm, by omega, HD2.out⟩
            case measure => exact hm
          · have HNO : Hid (intV bl ds = (0, false)) := by
              show _ = _
              unfold intV
              rw [if_neg]
              rintro ⟨_, hd⟩
              exact hnd ((digB_iff ds).1 hd _ HMEM.out)
            have hdg := digit_any (((Utf8.decode t p).1 : Nat) : Int) (wr.iterAt w2.heap.size t (p + (Utf8.decode t p).2))
            rw [hdz] at hdg
            generalize ((Utf8.decode t p).1 : Nat) = cd at *
            generalize wr.iterAt w2.heap.size t (p + (Utf8.decode t p).2) = W3 at *
            clear hdz hnd hit hbw
            generalize satL (ds.take p) = sn at *
            go_wp2_with (go_at_call 121; fail)
            refine (hdg).mono ?_
            rintro e w' ⟨rfl, rfl⟩
            go_wp2
            go_ret2
            exact ⟨ret2_v HNO.out, hbw3⟩
        · have hps : ¬ p < t.size := by rw [← HSZ.out]; exact hlt
          have hnx : ∀ ty, (Instr.next (.pointer (some ⟨w2.heap.size, 0, none⟩)) true ty).run Tryz.prog wr = _ := fun ty => Lib.run_next_end_at wr w2.heap.size t p ty hit hps
          have HE : Hid (ds.take p = ds) := by show ds.take p = ds; exact List.take_of_length_le (by omega)
          have HDD : Hid (intV bl ds = (negZ bl (satL ds), true)) := by
            show _ = _
            unfold intV
            have h1 := HDG.out
            rw [HE.out] at h1
            rw [if_pos ⟨HNE.out, (digB_iff ds).2 h1⟩]
          generalize hsn : satL (ds.take p) = sn at *
          have HSN : Hid (satL ds = sn) := by show satL ds = sn; rw [← hsn, HE.out]
          clear hsn
          cases bl
          · go_wp2
            go_ret2
            exact ⟨ret2_v (by rw [HDD.out, HSN.out]; rfl), hbw⟩
          · go_wp2
            go_ret2
            exact ⟨ret2_v (by rw [HDD.out, HSN.out]; rfl), hbw⟩
  · have e0 := empty_of (show t.size = 0 by omega)
    subst e0
    have e1 : intV bl (bytesL ⟨#[]⟩) = (0, false) := by
      unfold intV
      rw [if_neg]
      rintro ⟨h, _⟩
      exact h rfl
    rw [e1]
    clear e1 HDEC HSZ h0 hlt
    rcases hk1 with a1 | ⟨a1, a2⟩ | ⟨a1, a2, a3⟩
    all_goals
      go_enter Tryz.func157, Tryz.ntmps157
      go_wp2_with (go_at_call 168; fail)
      refine (HUN.out _).mono ?_
      rintro e w1 ⟨rfl, m1, rfl⟩
      have c3 : ((w.alloc (.cells #[.int .i64 k, .string s, .string u, .bool true, .bool fl] 55)).drewN m1).cell? ⟨w.heap.size, 3, none⟩ = some (.bool true) := by
        have h := heap_alloc_new w (.cells #[.int .i64 k, .string s, .string u, .bool true, .bool fl] 55)
        have h2 : ((w.alloc (.cells #[.int .i64 k, .string s, .string u, .bool true, .bool fl] 55)).drewN m1).heap[w.heap.size]? = some (.cells #[.int .i64 k, .string s, .string u, .bool true, .bool fl] 55 (0, 0)) := by rw [← h]; rfl
        simp only [World.cell?, h2]
        rfl
      have hb2 : Below w.heap.size w ((w.alloc (.cells #[.int .i64 k, .string s, .string u, .bool true, .bool fl] 55)).drewN m1) := hB1.trans ((Kept.drewN w.heap.size _ m1).below (by simp))
      generalize ((w.alloc (.cells #[.int .i64 k, .string s, .string u, .bool true, .bool fl] 55)).drewN m1) = w2 at *
      go_wp2
      go_ret2
      exact ⟨rfl, hb2⟩

set_option maxHeartbeats 1000000 in
set_option maxRecDepth 100000 in
theorem int_not_whole (k : Int) (hk : k = 10 ∨ k = 11 ∨ k = 12) (s u : ByteArray) (fl : Bool) (w : World) :
    Calls Tryz.prog 157 #[.agg #[.int .i64 k, .string s, .string u, .bool false, .bool fl]] w fun e w' => e = .returned (.tuple #[.int .i64 0, .bool false]) ∧ Below w.heap.size w w' := by
  have HUN := hid_mk (fun w' => unsigned_any s w')
  have hB1 : Below w.heap.size w (w.alloc (.cells #[.int .i64 k, .string s, .string u, .bool false, .bool fl] 55)) := (Below.refl _ w).alloc (Nat.le_refl _) _
  generalize negB s = bl at *
  generalize bodyS s = t at *
  rcases hk with rfl | rfl | rfl
  all_goals
    go_enter Tryz.func157, Tryz.ntmps157
    go_wp2_with (go_at_call 168; fail)
    refine (HUN.out _).mono ?_
    rintro e w1 ⟨rfl, m1, rfl⟩
    have hb2 := hB1.trans ((Kept.drewN w.heap.size _ m1).below (by simp))
    have h := heap_alloc_new w
    go_wp2
    go_ret2
    exact ⟨rfl, hb2⟩
set_option maxHeartbeats 1000000 in
set_option maxRecDepth 100000 in
theorem int_no_kind (k : Int) (hk : ¬ (k = 10 ∨ k = 11 ∨ k = 12)) (s u : ByteArray) (wh fl : Bool) (w : World) :
    Calls Tryz.prog 157 #[.agg #[.int .i64 k, .string s, .string u, .bool wh, .bool fl]] w fun e w' => e = .returned (.tuple #[.int .i64 0, .bool false]) ∧ Below w.heap.size w w' := by
  have hB1 : Below w.heap.size w (w.alloc (.cells #[.int .i64 k, .string s, .string u, .bool wh, .bool fl] 55)) := (Below.refl _ w).alloc (Nat.le_refl _) _
  have h1 : (k == 10) = false := by simp; omega
  have h2 : (k == 11) = false := by simp; omega
  have h3 : (k == 12) = false := by simp; omega
  clear hk
  go_enter Tryz.func157, Tryz.ntmps157
  go_wp2
  go_ret2
  exact ⟨rfl, hB1⟩

-- WHOLE
theorem byte_at (t : ByteArray) (p : Nat) (hp : p < t.size) : (bytesL t).getD p 0 = (((t[p]'hp).toNat : Nat) : Int) := by
  unfold bytesL
  have h1 : t.data[p]? = some (t.data[p]'hp) := Array.getElem?_eq_getElem hp
  simp [List.getD, h1]
  rfl

set_option maxHeartbeats 2000000 in
set_option maxRecDepth 100000 in
theorem whole_plain (s : ByteArray) (hs : s.size ≤ 100000) (h0 : 0 < s.size) (h45 : (s[0]'h0).toNat ≠ 45) (h43 : (s[0]'h0).toNat ≠ 43) (w : World) :
    Calls Tryz.prog 112 #[.string s] w fun e w' => e = .returned (.tuple #[.int .i64 (intV false (bytesL s)).1, .bool (intV false (bytesL s)).2]) ∧ w = w' := by
  have e1 : (((s[0]'h0).toNat : Int) == 45) = false := by simp; omega
  have e2 : (((s[0]'h0).toNat : Int) == 43) = false := by simp; omega
  have HSZ := hid_mk (bytesL_size s)
  have HGT := hid_mk (fun p hp => byte_at s p hp)
  have HNE : Hid (bytesL s ≠ []) := by
    intro e
    have := bytesL_size s
    rw [e] at this
    simp at this
    omega
  clear h45 h43
  generalize bytesL s = ds at *
  go_enter Tryz.func112, Tryz.ntmps112
  go_wp2
  go_loop [5, 6] (fun a5 a6 => ∃ k : Nat, a6 = .int .i64 k ∧ a5 = .int .i64 (satL (ds.take k)) ∧ k ≤ ds.length ∧ Dig (ds.take k)) (fun _ a6 => ds.length + 1 - (intOf a6).toNat)
  case atStart => exact ⟨0, rfl, rfl, Nat.zero_le _, fun c hc => by simp at hc⟩
  case round =>
    obtain ⟨k, rfl, rfl, hk, hdig⟩ := hrel
    have hsb := satL_bd (ds.take k) hdig
    have HDG := hid_mk hdig
    clear hdig
    by_cases hlt : k < ds.length
    · have hps : k < s.size := by rw [← HSZ.out]; exact hlt
      have HGB := hid_mk (HGT.out k hps)
      have HTK : Hid (ds.take (k + 1) = ds.take k ++ [ds.getD k 0]) := by
        show _ = _
        rw [List.take_add_one]
        simp [List.getD, hlt]
      have HMEM : Hid (ds.getD k 0 ∈ ds) := by
        show _ ∈ _
        simp [List.getD, hlt]
      have hb8 := (s[k]'hps).toNat_lt
      have HNO : Hid (¬ (48 ≤ ds.getD k 0 ∧ ds.getD k 0 ≤ 57) → intV false ds = (0, false)) := by
        intro hnd
        unfold intV
        rw [if_neg]
        rintro ⟨_, hd⟩
        exact hnd ((digB_iff ds).1 hd _ HMEM.out)
      by_cases hc1 : 48 ≤ (s[k]'hps).toNat
      · by_cases hc2 : (s[k]'hps).toNat ≤ 57
        · have HS : Hid (satL (ds.take (k + 1)) = satZ (satL (ds.take k)) (ds.getD k 0)) := by
            show satL (ds.take (k + 1)) = _
            rw [HTK.out, satL_snoc]
          have HD2 : Hid (Dig (ds.take (k + 1))) := by
            show Dig _
            rw [HTK.out]
            intro c hc
            rcases List.mem_append.1 hc with hc | hc
            · exact HDG.out c hc
            · rw [List.mem_singleton.1 hc, HGB.out]
              omega
          have HV : Hid (satL (ds.take (k + 1)) = if 1000000 < 10 * satL (ds.take k) + (((s[k]'hps).toNat : Int) - 48) then 1000000 else 10 * satL (ds.take k) + (((s[k]'hps).toNat : Int) - 48)) := by
            show _ = _
            rw [HS.out, HGB.out]
            unfold satZ
            rw [Int.mul_comm 10]
          clear HNO HGB HTK
          generalize satL (ds.take k) = sn at *
          by_cases hbg : 1000000 < 10 * sn + (((s[k]'hps).toNat : Int) - 48)
          · have HV2 : Hid (satL (ds.take (k + 1)) = 1000000) := by
              show _ = _
              rw [HV.out, if_pos hbg]
            go_wp2
            go_round
            case rel => exact ⟨k + 1, by go_num, congrArg (Value.int .i64) HV2.out.symm, by omega, HD2.out⟩
            case measure => simp [intOf]; omega
          · have HV2 : Hid (satL (ds.take (k + 1)) = 10 * sn + (((s[k]'hps).toNat : Int) - 48)) := by
              show _ = _
              rw [HV.out, if_neg hbg]
            go_wp2
            go_round
            case rel => exact ⟨k + 1, by go_num, congrArg (Value.int .i64) HV2.out.symm, by omega, HD2.out⟩
            case measure => simp [intOf]; omega
        · have HN2 : Hid (intV false ds = (0, false)) := HNO.out (by rw [HGB.out]; omega)
          generalize satL (ds.take k) = sn at *
          clear HNO HGB HTK
          go_wp2
          go_ret2
          exact ⟨ret2_v HN2.out, rfl⟩
      · have HN2 : Hid (intV false ds = (0, false)) := HNO.out (by rw [HGB.out]; omega)
        generalize satL (ds.take k) = sn at *
        clear HNO HGB HTK
        go_wp2
        go_ret2
        exact ⟨ret2_v HN2.out, rfl⟩
    · have hps : ¬ k < s.size := by rw [← HSZ.out]; exact hlt
      have HE : Hid (ds.take k = ds) := by show ds.take k = ds; exact List.take_of_length_le (by omega)
      have HDD : Hid (intV false ds = (negZ false (satL ds), true)) := by
        show _ = _
        unfold intV
        have h1 := HDG.out
        rw [HE.out] at h1
        rw [if_pos ⟨HNE.out, (digB_iff ds).2 h1⟩]
      generalize hsn : satL (ds.take k) = sn at *
      have HSN : Hid (satL ds = sn) := by show satL ds = sn; rw [← hsn, HE.out]
      clear hsn
      go_wp2
      go_ret2
      exact ⟨ret2_v (by rw [HDD.out, HSN.out]; rfl), rfl⟩

set_option maxHeartbeats 2000000 in
set_option maxRecDepth 100000 in
theorem whole_minus (s : ByteArray) (hs : s.size ≤ 100000) (h0 : 0 < s.size) (hc : (s[0]'h0).toNat = 45) (h1 : 1 < s.size) (w : World) :
    Calls Tryz.prog 112 #[.string s] w fun e w' => e = .returned (.tuple #[.int .i64 (intV true (bytesL (s.extract 1 s.size))).1, .bool (intV true (bytesL (s.extract 1 s.size))).2]) ∧ w = w' := by
  have e1 : (((s[0]'h0).toNat : Int) == 45) = true := by rw [hc]; rfl
  have e2 : (((s[0]'h0).toNat : Int) == 43) = false := by rw [hc]; rfl
  have hts : (s.extract 1 s.size).size = s.size - 1 := by simp
  have HSZ := hid_mk (bytesL_size (s.extract 1 s.size))
  have HGT := hid_mk (fun p hp => byte_at (s.extract 1 s.size) p hp)
  have HNE : Hid (bytesL (s.extract 1 s.size) ≠ []) := by
    intro e
    have := bytesL_size (s.extract 1 s.size)
    rw [e] at this
    simp at this
    omega
  generalize bytesL (s.extract 1 s.size) = ds at *
  clear hc
  go_enter Tryz.func112, Tryz.ntmps112
  go_wp2
  generalize s.extract 1 s.size = t at *
  have htp : 0 < t.size := by omega
  have htb : t.size ≤ 100000 := by omega
  clear hts
  go_loop [5, 6] (fun a5 a6 => ∃ k : Nat, a6 = .int .i64 k ∧ a5 = .int .i64 (satL (ds.take k)) ∧ k ≤ ds.length ∧ Dig (ds.take k)) (fun _ a6 => ds.length + 1 - (intOf a6).toNat)
  case atStart => exact ⟨0, rfl, rfl, Nat.zero_le _, fun c hc => by simp at hc⟩
  case round =>
    obtain ⟨k, rfl, rfl, hk, hdig⟩ := hrel
    have hsb := satL_bd (ds.take k) hdig
    have HDG := hid_mk hdig
    clear hdig
    by_cases hlt : k < ds.length
    · have hps : k < t.size := by rw [← HSZ.out]; exact hlt
      have HGB := hid_mk (HGT.out k hps)
      have HTK : Hid (ds.take (k + 1) = ds.take k ++ [ds.getD k 0]) := by
        show _ = _
        rw [List.take_add_one]
        simp [List.getD, hlt]
      have HMEM : Hid (ds.getD k 0 ∈ ds) := by
        show _ ∈ _
        simp [List.getD, hlt]
      have hb8 := (t[k]'hps).toNat_lt
      have HNO : Hid (¬ (48 ≤ ds.getD k 0 ∧ ds.getD k 0 ≤ 57) → intV true ds = (0, false)) := by
        intro hnd
        unfold intV
        rw [if_neg]
        rintro ⟨_, hd⟩
        exact hnd ((digB_iff ds).1 hd _ HMEM.out)
      by_cases hc1 : 48 ≤ (t[k]'hps).toNat
      · by_cases hc2 : (t[k]'hps).toNat ≤ 57
        · have HS : Hid (satL (ds.take (k + 1)) = satZ (satL (ds.take k)) (ds.getD k 0)) := by
            show satL (ds.take (k + 1)) = _
            rw [HTK.out, satL_snoc]
          have HD2 : Hid (Dig (ds.take (k + 1))) := by
            show Dig _
            rw [HTK.out]
            intro c hc
            rcases List.mem_append.1 hc with hc | hc
            · exact HDG.out c hc
            · rw [List.mem_singleton.1 hc, HGB.out]
              omega
          have HV : Hid (satL (ds.take (k + 1)) = if 1000000 < 10 * satL (ds.take k) + (((t[k]'hps).toNat : Int) - 48) then 1000000 else 10 * satL (ds.take k) + (((t[k]'hps).toNat : Int) - 48)) := by
            show _ = _
            rw [HS.out, HGB.out]
            unfold satZ
            rw [Int.mul_comm 10]
          clear HNO HGB HTK
          generalize satL (ds.take k) = sn at *
          by_cases hbg : 1000000 < 10 * sn + (((t[k]'hps).toNat : Int) - 48)
          · have HV2 : Hid (satL (ds.take (k + 1)) = 1000000) := by
              show _ = _
              rw [HV.out, if_pos hbg]
            go_wp2
            go_round
            case rel => exact ⟨k + 1, by go_num, congrArg (Value.int .i64) HV2.out.symm, by omega, HD2.out⟩
            case measure => simp [intOf]; omega
          · have HV2 : Hid (satL (ds.take (k + 1)) = 10 * sn + (((t[k]'hps).toNat : Int) - 48)) := by
              show _ = _
              rw [HV.out, if_neg hbg]
            go_wp2
            go_round
            case rel => exact ⟨k + 1, by go_num, congrArg (Value.int .i64) HV2.out.symm, by omega, HD2.out⟩
            case measure => simp [intOf]; omega
        · have HN2 : Hid (intV true ds = (0, false)) := HNO.out (by rw [HGB.out]; omega)
          generalize satL (ds.take k) = sn at *
          clear HNO HGB HTK
          go_wp2
          go_ret2
          exact ⟨ret2_v HN2.out, rfl⟩
      · have HN2 : Hid (intV true ds = (0, false)) := HNO.out (by rw [HGB.out]; omega)
        generalize satL (ds.take k) = sn at *
        clear HNO HGB HTK
        go_wp2
        go_ret2
        exact ⟨ret2_v HN2.out, rfl⟩
    · have hps : ¬ k < t.size := by rw [← HSZ.out]; exact hlt
      have HE : Hid (ds.take k = ds) := by show ds.take k = ds; exact List.take_of_length_le (by omega)
      have HDD : Hid (intV true ds = (negZ true (satL ds), true)) := by
        show _ = _
        unfold intV
        have h1 := HDG.out
        rw [HE.out] at h1
        rw [if_pos ⟨HNE.out, (digB_iff ds).2 h1⟩]
      generalize hsn : satL (ds.take k) = sn at *
      have HSN : Hid (satL ds = sn) := by show satL ds = sn; rw [← hsn, HE.out]
      clear hsn
      go_wp2
      go_ret2
      exact ⟨ret2_v (by rw [HDD.out, HSN.out]; rfl), rfl⟩

set_option maxHeartbeats 1000000 in
set_option maxRecDepth 100000 in
theorem whole_minus0 (s : ByteArray) (h0 : 0 < s.size) (hc : (s[0]'h0).toNat = 45) (h1 : s.size = 1) (w : World) :
    Calls Tryz.prog 112 #[.string s] w fun e w' => e = .returned (.tuple #[.int .i64 0, .bool false]) ∧ w = w' := by
  have e1 : (((s[0]'h0).toNat : Int) == 45) = true := by rw [hc]; rfl
  have e2 : (((s[0]'h0).toNat : Int) == 43) = false := by rw [hc]; rfl
  have ht : s.extract 1 s.size = ⟨#[]⟩ := empty_of (by simp [h1])
  clear hc
  go_enter Tryz.func112, Tryz.ntmps112
  go_wp2
  first | rw [ht] | skip
  go_loop [5, 6] (fun a5 a6 => a5 = .int .i64 0 ∧ a6 = .int .i64 0) (fun _ _ => 0)
  case atStart => exact ⟨rfl, rfl⟩
  case round =>
    obtain ⟨rfl, rfl⟩ := hrel
    go_wp2
    go_ret2
    exact ⟨rfl, rfl⟩

set_option maxHeartbeats 2000000 in
set_option maxRecDepth 100000 in
theorem whole_plus (s : ByteArray) (hs : s.size ≤ 100000) (h0 : 0 < s.size) (hc : (s[0]'h0).toNat = 43) (h1 : 1 < s.size) (w : World) :
    Calls Tryz.prog 112 #[.string s] w fun e w' => e = .returned (.tuple #[.int .i64 (intV false (bytesL (s.extract 1 s.size))).1, .bool (intV false (bytesL (s.extract 1 s.size))).2]) ∧ w = w' := by
  have e1 : (((s[0]'h0).toNat : Int) == 45) = false := by rw [hc]; rfl
  have e2 : (((s[0]'h0).toNat : Int) == 43) = true := by rw [hc]; rfl
  have hts : (s.extract 1 s.size).size = s.size - 1 := by simp
  have HSZ := hid_mk (bytesL_size (s.extract 1 s.size))
  have HGT := hid_mk (fun p hp => byte_at (s.extract 1 s.size) p hp)
  have HNE : Hid (bytesL (s.extract 1 s.size) ≠ []) := by
    intro e
    have := bytesL_size (s.extract 1 s.size)
    rw [e] at this
    simp at this
    omega
  generalize bytesL (s.extract 1 s.size) = ds at *
  clear hc
  go_enter Tryz.func112, Tryz.ntmps112
  go_wp2
  generalize s.extract 1 s.size = t at *
  have htp : 0 < t.size := by omega
  have htb : t.size ≤ 100000 := by omega
  clear hts
  go_loop [5, 6] (fun a5 a6 => ∃ k : Nat, a6 = .int .i64 k ∧ a5 = .int .i64 (satL (ds.take k)) ∧ k ≤ ds.length ∧ Dig (ds.take k)) (fun _ a6 => ds.length + 1 - (intOf a6).toNat)
  case atStart => exact ⟨0, rfl, rfl, Nat.zero_le _, fun c hc => by simp at hc⟩
  case round =>
    obtain ⟨k, rfl, rfl, hk, hdig⟩ := hrel
    have hsb := satL_bd (ds.take k) hdig
    have HDG := hid_mk hdig
    clear hdig
    by_cases hlt : k < ds.length
    · have hps : k < t.size := by rw [← HSZ.out]; exact hlt
      have HGB := hid_mk (HGT.out k hps)
      have HTK : Hid (ds.take (k + 1) = ds.take k ++ [ds.getD k 0]) := by
        show _ = _
        rw [List.take_add_one]
        simp [List.getD, hlt]
      have HMEM : Hid (ds.getD k 0 ∈ ds) := by
        show _ ∈ _
        simp [List.getD, hlt]
      have hb8 := (t[k]'hps).toNat_lt
      have HNO : Hid (¬ (48 ≤ ds.getD k 0 ∧ ds.getD k 0 ≤ 57) → intV false ds = (0, false)) := by
        intro hnd
        unfold intV
        rw [if_neg]
        rintro ⟨_, hd⟩
        exact hnd ((digB_iff ds).1 hd _ HMEM.out)
      by_cases hc1 : 48 ≤ (t[k]'hps).toNat
      · by_cases hc2 : (t[k]'hps).toNat ≤ 57
        · have HS : Hid (satL (ds.take (k + 1)) = satZ (satL (ds.take k)) (ds.getD k 0)) := by
            show satL (ds.take (k + 1)) = _
            rw [HTK.out, satL_snoc]
          have HD2 : Hid (Dig (ds.take (k + 1))) := by
            show Dig _
            rw [HTK.out]
            intro c hc
            rcases List.mem_append.1 hc with hc | hc
            · exact HDG.out c hc
            · rw [List.mem_singleton.1 hc, HGB.out]
              omega
          have HV : Hid (satL (ds.take (k + 1)) = if 1000000 < 10 * satL (ds.take k) + (((t[k]'hps).toNat : Int) - 48) then 1000000 else 10 * satL (ds.take k) + (((t[k]'hps).toNat : Int) - 48)) := by
            show _ = _
            rw [HS.out, HGB.out]
            unfold satZ
            rw [Int.mul_comm 10]
          clear HNO HGB HTK
          generalize satL (ds.take k) = sn at *
          by_cases hbg : 1000000 < 10 * sn + (((t[k]'hps).toNat : Int) - 48)
          · have HV2 : Hid (satL (ds.take (k + 1)) = 1000000) := by
              show _ = _
              rw [HV.out, if_pos hbg]
            go_wp2
            go_round
            case rel => exact ⟨k + 1, by go_num, congrArg (Value.int .i64) HV2.out.symm, by omega, HD2.out⟩
            case measure => simp [intOf]; omega
          · have HV2 : Hid (satL (ds.take (k + 1)) = 10 * sn + (((t[k]'hps).toNat : Int) - 48)) := by
              show _ = _
              rw [HV.out, if_neg hbg]
            go_wp2
            go_round
            case rel => exact ⟨k + 1, by go_num, congrArg (Value.int .i64) HV2.out.symm, by omega, HD2.out⟩
            case measure => simp [intOf]; omega
        · have HN2 : Hid (intV false ds = (0, false)) := HNO.out (by rw [HGB.out]; omega)
          generalize satL (ds.take k) = sn at *
          clear HNO HGB HTK
          go_wp2
          go_ret2
          exact ⟨ret2_v HN2.out, rfl⟩
      · have HN2 : Hid (intV false ds = (0, false)) := HNO.out (by rw [HGB.out]; omega)
        generalize satL (ds.take k) = sn at *
        clear HNO HGB HTK
        go_wp2
        go_ret2
        exact ⟨ret2_v HN2.out, rfl⟩
    · have hps : ¬ k < t.size := by rw [← HSZ.out]; exact hlt
      have HE : Hid (ds.take k = ds) := by show ds.take k = ds; exact List.take_of_length_le (by omega)
      have HDD : Hid (intV false ds = (negZ false (satL ds), true)) := by
        show _ = _
        unfold intV
        have h1 := HDG.out
        rw [HE.out] at h1
        rw [if_pos ⟨HNE.out, (digB_iff ds).2 h1⟩]
      generalize hsn : satL (ds.take k) = sn at *
      have HSN : Hid (satL ds = sn) := by show satL ds = sn; rw [← hsn, HE.out]
      clear hsn
      go_wp2
      go_ret2
      exact ⟨ret2_v (by rw [HDD.out, HSN.out]; rfl), rfl⟩

set_option maxHeartbeats 1000000 in
set_option maxRecDepth 100000 in
theorem whole_plus0 (s : ByteArray) (h0 : 0 < s.size) (hc : (s[0]'h0).toNat = 43) (h1 : s.size = 1) (w : World) :
    Calls Tryz.prog 112 #[.string s] w fun e w' => e = .returned (.tuple #[.int .i64 0, .bool false]) ∧ w = w' := by
  have e1 : (((s[0]'h0).toNat : Int) == 45) = false := by rw [hc]; rfl
  have e2 : (((s[0]'h0).toNat : Int) == 43) = true := by rw [hc]; rfl
  have ht : s.extract 1 s.size = ⟨#[]⟩ := empty_of (by simp [h1])
  clear hc
  go_enter Tryz.func112, Tryz.ntmps112
  go_wp2
  first | rw [ht] | skip
  go_loop [5, 6] (fun a5 a6 => a5 = .int .i64 0 ∧ a6 = .int .i64 0) (fun _ _ => 0)
  case atStart => exact ⟨rfl, rfl⟩
  case round =>
    obtain ⟨rfl, rfl⟩ := hrel
    go_wp2
    go_ret2
    exact ⟨rfl, rfl⟩

set_option maxHeartbeats 1000000 in
set_option maxRecDepth 100000 in
theorem whole_empty (w : World) : Calls Tryz.prog 112 #[.string ⟨#[]⟩] w fun e w' => e = .returned (.tuple #[.int .i64 0, .bool false]) ∧ w = w' := by
  go_enter Tryz.func112, Tryz.ntmps112
  go_wp2
  go_loop [5, 6] (fun a5 a6 => a5 = .int .i64 0 ∧ a6 = .int .i64 0) (fun _ _ => 0)
  case atStart => exact ⟨rfl, rfl⟩
  case round =>
    obtain ⟨rfl, rfl⟩ := hrel
    go_wp2
    go_ret2
    exact ⟨rfl, rfl⟩

theorem whole_any (s : ByteArray) (hs : s.size ≤ 100000) (w : World) :
    Calls Tryz.prog 112 #[.string s] w fun e w' => e = .returned (.tuple #[.int .i64 (intV (negB s) (bytesL (bodyS s))).1, .bool (intV (negB s) (bytesL (bodyS s))).2]) ∧ w = w' := by
  by_cases h0 : 0 < s.size
  · have hg := get_at s h0
    have es : sgnB s = ((s[0]'h0).toNat == 43 || (s[0]'h0).toNat == 45) := by unfold sgnB; rw [hg]; simp [h0]
    have en : negB s = ((s[0]'h0).toNat == 45) := by unfold negB; rw [hg]; simp [h0]
    have hnil : ∀ bl, intV bl (bytesL ⟨#[]⟩) = (0, false) := by
      intro bl
      unfold intV
      rw [if_neg]
      rintro ⟨h, _⟩
      exact h rfl
    by_cases h43 : (s[0]'h0).toNat = 43
    · have hb : bodyS s = s.extract 1 s.size := by unfold bodyS; rw [es, h43]; rfl
      have hn : negB s = false := by rw [en, h43]; rfl
      rw [hb, hn]
      by_cases h1 : 1 < s.size
      · exact whole_plus s hs h0 h43 h1 w
      · rw [empty_of (show (s.extract 1 s.size).size = 0 by simp; omega), hnil]
        exact whole_plus0 s h0 h43 (by omega) w
    · by_cases h45 : (s[0]'h0).toNat = 45
      · have hb : bodyS s = s.extract 1 s.size := by unfold bodyS; rw [es, h45]; rfl
        have hn : negB s = true := by rw [en, h45]; rfl
        rw [hb, hn]
        by_cases h1 : 1 < s.size
        · exact whole_minus s hs h0 h45 h1 w
        · rw [empty_of (show (s.extract 1 s.size).size = 0 by simp; omega), hnil]
          exact whole_minus0 s h0 h45 (by omega) w
      · have hb : bodyS s = s := by unfold bodyS; rw [es]; simp [h43, h45]
        have hn : negB s = false := by rw [en]; simp [h45]
        rw [hb, hn]
        exact whole_plain s hs h0 h45 h43 w
  · have e := empty_of (show s.size = 0 by omega)
    subst e
    exact whole_empty w

set_option maxHeartbeats 1000000 in
set_option maxRecDepth 100000 in
theorem rint_whole (k : Int) (hk : k = 10 ∨ k = 11 ∨ k = 12) (s u : ByteArray) (fl : Bool) (hs : s.size ≤ 100000) (w : World) :
    Calls Tryz.prog 79 #[.agg #[.int .i64 k, .string s, .string u, .bool true, .bool fl]] w fun e w' => e = .returned (.tuple #[.int .i64 (intV (negB s) (bytesL (bodyS s))).1, .bool (intV (negB s) (bytesL (bodyS s))).2]) ∧ Below w.heap.size w w' := by
  have hB1 : Below w.heap.size w (w.alloc (.cells #[.int .i64 k, .string s, .string u, .bool true, .bool fl] 55)) := (Below.refl _ w).alloc (Nat.le_refl _) _
  have hw := fun w => whole_any s hs w
  generalize intV (negB s) (bytesL (bodyS s)) = v at *
  rcases hk with rfl | rfl | rfl
  all_goals
    go_enter Tryz.func79, Tryz.ntmps79
    go_wp2_with (go_at_call 112; fail)
    refine (hw _).mono ?_
    rintro e w1 ⟨rfl, rfl⟩
    go_wp2
    go_ret2
    exact ⟨rfl, hB1⟩
set_option maxHeartbeats 1000000 in
set_option maxRecDepth 100000 in
theorem rint_not_whole (k : Int) (s u : ByteArray) (fl : Bool) (w : World) :
    Calls Tryz.prog 79 #[.agg #[.int .i64 k, .string s, .string u, .bool false, .bool fl]] w fun e w' => e = .returned (.tuple #[.int .i64 0, .bool false]) ∧ Below w.heap.size w w' := by
  have hB1 : Below w.heap.size w (w.alloc (.cells #[.int .i64 k, .string s, .string u, .bool false, .bool fl] 55)) := (Below.refl _ w).alloc (Nat.le_refl _) _
  go_enter Tryz.func79, Tryz.ntmps79
  go_wp2
  go_ret2
  exact ⟨rfl, hB1⟩
set_option maxHeartbeats 1000000 in
set_option maxRecDepth 100000 in
theorem rint_no_kind (k : Int) (hk : ¬ (k = 10 ∨ k = 11 ∨ k = 12)) (s u : ByteArray) (fl : Bool) (w : World) :
    Calls Tryz.prog 79 #[.agg #[.int .i64 k, .string s, .string u, .bool true, .bool fl]] w fun e w' => e = .returned (.tuple #[.int .i64 0, .bool false]) ∧ Below w.heap.size w w' := by
  have hB1 : Below w.heap.size w (w.alloc (.cells #[.int .i64 k, .string s, .string u, .bool true, .bool fl] 55)) := (Below.refl _ w).alloc (Nat.le_refl _) _
  have h1 : (k != 10) = true := by simp; omega
  have h2 : (k != 11) = true := by simp; omega
  have h3 : (k != 12) = true := by simp; omega
  clear hk
  go_enter Tryz.func79, Tryz.ntmps79
  go_wp2
  go_ret2
  exact ⟨rfl, hB1⟩

end Go.Proofs.YtlhdapckenjigaaGreatDoor.W
