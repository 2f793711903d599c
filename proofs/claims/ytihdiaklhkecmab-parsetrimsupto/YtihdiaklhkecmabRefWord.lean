/- A word in the second reading: an Ident, a Function, a URL. -/
import Derived.Test.YtihdiaklhkecmabRefUrl
namespace Go.Proofs.Ytihdiaklhkecmab
open Go.RowKit

theorem byte_back {n : Int} (h : 0 ≤ n ∧ n < 256) : ((UInt8.ofNat n.toNat).toNat : Int) = n := by
  simp only [UInt8.toNat_ofNat']
  omega
theorem fold_nums (l : List Int) (h : ∀ n ∈ l, 0 ≤ n ∧ n < 256) : foldS (strOfNums l) = strOfNums (l.map foldI) := by
  apply ByteArray.ext
  show ((l.map _).toArray.map foldB) = ((l.map foldI).map _).toArray
  simp only [List.map_toArray, List.map_map]
  congr 1
  apply List.map_congr_left
  intro n hn
  have hb := h n hn
  show foldB (UInt8.ofNat n.toNat) = UInt8.ofNat (foldI n).toNat
  apply UInt8.toNat_inj.1
  rw [foldB_nat]
  have e1 : (UInt8.ofNat n.toNat).toNat = n.toNat := by simp only [UInt8.toNat_ofNat']; omega
  rw [e1]
  unfold foldN foldI
  split
  · rename_i h1
    rw [if_pos (by omega)]
    simp only [UInt8.toNat_ofNat']
    omega
  · rename_i h1
    rw [if_neg (by omega)]
    simp only [UInt8.toNat_ofNat']
    omega
theorem nums_inj {a c : List Int} (ha : ∀ n ∈ a, 0 ≤ n ∧ n < 256) (hc : ∀ n ∈ c, 0 ≤ n ∧ n < 256) (h : strOfNums a = strOfNums c) : a = c := by
  have h1 : (a.map fun n => UInt8.ofNat n.toNat) = (c.map fun n => UInt8.ofNat n.toNat) := by
    have := congrArg ByteArray.data h
    simpa [strOfNums] using this
  have h2 := congrArg (List.map fun x : UInt8 => (x.toNat : Int)) h1
  rw [List.map_map, List.map_map] at h2
  have e : ∀ l : List Int, (∀ n ∈ l, 0 ≤ n ∧ n < 256) → l.map ((fun x : UInt8 => (x.toNat : Int)) ∘ fun n => UInt8.ofNat n.toNat) = l := by
    intro l hl
    conv => rhs; rw [← List.map_id l]
    apply List.map_congr_left
    intro n hn
    exact byte_back (hl n hn)
  rw [e a ha, e c hc] at h2
  exact h2
theorem url_name (t : List Int) : (foldS (strOfNums (bytesZ t)) = ⟨#[117, 114, 108]⟩) ↔ urlNm t = true := by
  have hb := bytesZ_byte t
  have e3 : (⟨#[117, 114, 108]⟩ : ByteArray) = strOfNums [117, 114, 108] := rfl
  rw [fold_nums _ hb, e3]
  unfold urlNm
  rw [beq_iff_eq]
  constructor
  · intro h
    refine nums_inj ?_ (by decide) h
    intro n hn
    obtain ⟨m, hm, rfl⟩ := List.mem_map.1 hn
    have := hb m hm
    unfold foldI
    split <;> omega
  · intro h
    rw [h]

theorem strT_size (l : List Int) : (strT l).size ≤ 4 * l.length := by
  unfold strT
  rw [strOf_size]
  induction l with
  | nil => simp [bytesZ]
  | cons c r ih =>
    have := (Lib.encodeRuneZ_length c).2
    rw [bytesZ_cons, List.length_append, List.length_cons]
    omega
theorem nameT_length : ∀ (l : List Int) (k : Nat), (nameT l k).length ≤ l.length
  | [], _ => by simp [nameT]
  | _ :: t, k + 1 => by
    rw [nameT]
    have := nameT_length t k
    simp only [List.length_cons]
    omega
  | c :: t, 0 => by
    rw [nameT]
    split
    · have := nameT_length t 0
      simp only [List.length_cons]
      omega
    · split
      · have := nameT_length t (escT t).2
        simp only [List.length_cons]
        omega
      · simp

set_option maxHeartbeats 4000000 in
set_option maxRecDepth 100000 in
theorem rword_any {w : World} {v : Value} {xs : List Int} (hv : RowAt .i32 w v xs) (fx : Fine xs) (i : Nat) (j : Int) (hj : j = i) (hi : i ≤ xs.length) :
    Calls Try.prog 49 #[v, .int .i64 j] w fun e w' => ∃ p : Nat, e = .returned (.tuple #[tokV (wordZ (xs.drop i)).1, .int .i64 p]) ∧ xs.drop p = (wordZ (xs.drop i)).2 ∧ i ≤ p ∧ p ≤ xs.length ∧ Below w.heap.size w w' := by
  subst hj
  have hl := fx.1
  have hB0 : Below w.heap.size w (w.alloc (.cells #[.int .i64 0, .string ⟨#[]⟩, .string ⟨#[]⟩, .bool false, .bool false] 27)) := (Below.refl _ _).alloc (Nat.le_refl _) _
  have HH : Hid (RowAt .i32 w v xs ∧ Fine xs) := And.intro hv fx
  have hnm := rname_any (hv.below hB0) fx i i rfl hi
  have HZ : Hid (wordZ (xs.drop i) = if hd (nameR (xs.drop i) 0) 0 = 40 then (if urlNm (nameT (xs.drop i) 0) && !qbB ((nameR (xs.drop i) 0).drop 1) then urlZ ((nameR (xs.drop i) 0).drop 1) else (plainTok 2 (nameT (xs.drop i) 0), (nameR (xs.drop i) 0).drop 1)) else (plainTok 1 (nameT (xs.drop i) 0), nameR (xs.drop i) 0)) := rfl
  have hsz := strT_size (nameT (xs.drop i) 0)
  have hnl := nameT_length (xs.drop i) 0
  rw [List.length_drop] at hnl
  have hun := url_name (nameT (xs.drop i) 0)
  have hfs : ∀ w', Calls Try.prog 58 #[.string (strT (nameT (xs.drop i) 0))] w' fun e w'' => e = .returned (.string (foldS (strT (nameT (xs.drop i) 0)))) ∧ Below w'.heap.size w' w'' := fun w' => refFold_any _ w' (by omega)
  have hun2 : (foldS (strT (nameT (xs.drop i) 0)) = ⟨#[117, 114, 108]⟩) ↔ urlNm (nameT (xs.drop i) 0) = true := hun
  clear hun
  obtain ⟨a, cap, rfl, hcap, hcs⟩ := hv
  clear fx hcs
  have HFS := hid_mk hfs
  have HUN := hid_mk hun2
  clear hfs hun2
  go_enter Try.func49, Try.ntmps49
  go_wp2_with (go_at_call 46; fail)
  refine (hnm).mono ?_
  rintro e w1 ⟨p1, rfl, hdr, hp1, hp2, b1⟩
  have hB1 : Below w.heap.size w w1 := hB0.trans (b1.mono (by simp))
  have hblk1 : w1.heap[w.heap.size]? = some (.cells #[.int .i64 0, .string ⟨#[]⟩, .string ⟨#[]⟩, .bool false, .bool false] 27 (0, 0)) := (b1.block _ (by simp)).trans (heap_alloc_new w _)
  have hsz1 : w.heap.size < w1.heap.size := (Array.getElem?_eq_some_iff.1 hblk1).1
  have ha := rat_any (HH.out.1.below hB1) HH.out.2 p1 p1 rfl
  have hh : hd (nameR (xs.drop i) 0) 0 = hd xs p1 := by rw [← hdr, hd_drop]; rfl
  have hZ2 := HZ.out
  rw [hh, ← hdr] at hZ2
  generalize nameT (xs.drop i) 0 = nm at *
  have HZ2 := hid_mk hZ2
  clear hZ2 HZ hh hdr hnm b1
  by_cases h40 : hd xs p1 = 40
  · have hlt : p1 < xs.length := by
      by_cases h : p1 < xs.length
      · exact h
      · rw [hd_end h] at h40; exact absurd h40 (by decide)
    have hbl := rblanks_any (HH.out.1.below hB1) HH.out.2 (p1 + 1) ((p1 : Int) + 1) (by omega) (by omega)
    rw [h40] at ha
    go_wp2_with (go_at_call 39; fail)
    refine (ha).mono ?_
    rintro e w' ⟨rfl, rfl⟩
    go_wp2_with (go_at_call 41; fail)
    refine (hbl).mono ?_
    rintro e w' ⟨k1, rfl, hkd, hk1, hk2, rfl⟩
    have hqb : qbB ((xs.drop p1).drop 1) = (hd xs k1 == 34 || hd xs k1 == 39) := by
      unfold qbB
      rw [List.drop_drop, ← hkd, hd_drop]
      rfl
    have HQB := hid_mk hqb
    clear hqb hkd
    cases hu : urlNm nm
    · have hne : foldS (strT nm) ≠ ⟨#[117, 114, 108]⟩ := by
        intro e
        rw [HUN.out.1 e] at hu
        cases hu
      have HV : Hid (wordZ (xs.drop i) = (plainTok 2 nm, xs.drop (p1 + 1))) := by
        show wordZ (xs.drop i) = _
        rw [HZ2.out, if_pos h40, hu, List.drop_drop]
        simp
      have HDR : Hid (xs.drop (p1 + 1) = xs.drop (p1 + 1)) := rfl
      clear hu h40
      have hf1 := HFS.out w1
      generalize foldS (strT nm) = fs at *
      have hne3 : (fs.toList == [117, 114, 108]) = false := by
        rw [Bool.eq_false_iff]
        intro h
        rw [beq_iff_eq, ByteArray.toList_eq] at h
        exact hne (ByteArray.ext (Array.toList_inj.1 h))
      have hne1 : (fs == ⟨#[117, 114, 108]⟩) = false := by rw [beq_toListBytes, ByteArray.toList_eq ⟨#[117, 114, 108]⟩]; exact hne3
      clear hne HFS HUN
      go_wp2_with (go_at_call 58; fail)
      refine (hf1).mono ?_
      rintro e w2 ⟨rfl, b2⟩
      have hB2 := hB1.trans (b2.mono hB1.size)
      have hblk2 : w2.heap[w.heap.size]? = some (.cells #[.int .i64 0, .string ⟨#[]⟩, .string ⟨#[]⟩, .bool false, .bool false] 27 (0, 0)) := (b2.block _ hsz1).trans hblk1
      have hsz2 : w.heap.size < w2.heap.size := (Array.getElem?_eq_some_iff.1 hblk2).1
      have ha2 := rat_any (HH.out.1.below hB2) HH.out.2 k1 k1 rfl
      have hur := rurl_any (HH.out.1.below hB2) HH.out.2 (p1 + 1) ((p1 : Int) + 1) (by omega) (by omega)
      obtain ⟨k0, k1', k2, k3, k4, f0, f1, f2, f3, f4⟩ := zero_cells hblk2
      go_wp2
      refine bodyPost_ret (v := .tuple #[.agg #[.int .i64 2, .string (strT nm), .string ⟨#[]⟩, .bool false, .bool false], .int .i64 ((p1 + 1 : Nat) : Int)]) (by simp [results, Try.results49, go_sem, k0, k1', k2, k3, k4]) rfl ⟨p1 + 1, by rw [HV.out]; rfl, by rw [HV.out], by omega, by omega, ?_⟩
      exact ((((hB2.setCell (Nat.le_refl _) _).setCell (Nat.le_refl _) _).setCell (Nat.le_refl _) _).setCell (Nat.le_refl _) _).setCell (Nat.le_refl _) _
    · have hf1 := HFS.out w1
      rw [HUN.out.2 hu] at hf1
      clear HUN HFS
      go_wp2_with (go_at_call 58; fail)
      refine (hf1).mono ?_
      rintro e w2 ⟨rfl, b2⟩
      have hB2 := hB1.trans (b2.mono hB1.size)
      have hblk2 : w2.heap[w.heap.size]? = some (.cells #[.int .i64 0, .string ⟨#[]⟩, .string ⟨#[]⟩, .bool false, .bool false] 27 (0, 0)) := (b2.block _ hsz1).trans hblk1
      have hsz2 : w.heap.size < w2.heap.size := (Array.getElem?_eq_some_iff.1 hblk2).1
      have ha2 := rat_any (HH.out.1.below hB2) HH.out.2 k1 k1 rfl
      have hur := rurl_any (HH.out.1.below hB2) HH.out.2 (p1 + 1) ((p1 : Int) + 1) (by omega) (by omega)
      obtain ⟨k0, k1', k2, k3, k4, f0, f1, f2, f3, f4⟩ := zero_cells hblk2
      by_cases hq : hd xs k1 = 34 ∨ hd xs k1 = 39
      · have HV : Hid (wordZ (xs.drop i) = (plainTok 2 nm, xs.drop (p1 + 1))) := by
          show wordZ (xs.drop i) = _
          have hqt : qbB ((xs.drop p1).drop 1) = true := by rw [HQB.out]; simpa using hq
          rw [HZ2.out, if_pos h40, hu, hqt, List.drop_drop]
          simp
        have HDR : Hid (xs.drop (p1 + 1) = xs.drop (p1 + 1)) := rfl
        clear hu h40
        rcases hq with h34 | h39
        · rw [h34] at ha2
          clear h34
          go_wp2_with (go_at_call 39; fail)
          refine (ha2).mono ?_
          rintro e w' ⟨rfl, rfl⟩
          go_wp2
          refine bodyPost_ret (v := .tuple #[.agg #[.int .i64 2, .string (strT nm), .string ⟨#[]⟩, .bool false, .bool false], .int .i64 ((p1 + 1 : Nat) : Int)]) (by simp [results, Try.results49, go_sem, k0, k1', k2, k3, k4]) rfl ⟨p1 + 1, by rw [HV.out]; rfl, by rw [HV.out], by omega, by omega, ?_⟩
          exact ((((hB2.setCell (Nat.le_refl _) _).setCell (Nat.le_refl _) _).setCell (Nat.le_refl _) _).setCell (Nat.le_refl _) _).setCell (Nat.le_refl _) _
        · rw [h39] at ha2
          clear h39
          go_wp2_with (go_at_call 39; fail)
          refine (ha2).mono ?_
          rintro e w' ⟨rfl, rfl⟩
          go_wp2_with (go_at_call 39; fail)
          refine (ha2).mono ?_
          rintro e w' ⟨rfl, rfl⟩
          go_wp2
          refine bodyPost_ret (v := .tuple #[.agg #[.int .i64 2, .string (strT nm), .string ⟨#[]⟩, .bool false, .bool false], .int .i64 ((p1 + 1 : Nat) : Int)]) (by simp [results, Try.results49, go_sem, k0, k1', k2, k3, k4]) rfl ⟨p1 + 1, by rw [HV.out]; rfl, by rw [HV.out], by omega, by omega, ?_⟩
          exact ((((hB2.setCell (Nat.le_refl _) _).setCell (Nat.le_refl _) _).setCell (Nat.le_refl _) _).setCell (Nat.le_refl _) _).setCell (Nat.le_refl _) _
      · have HV : Hid (wordZ (xs.drop i) = urlZ (xs.drop (p1 + 1))) := by
          show wordZ (xs.drop i) = _
          have hqt : qbB ((xs.drop p1).drop 1) = false := by
            rw [HQB.out]
            have h1 : hd xs k1 ≠ 34 := fun e => hq (.inl e)
            have h2 : hd xs k1 ≠ 39 := fun e => hq (.inr e)
            simp [h1, h2]
          rw [HZ2.out, if_pos h40, hu, hqt, List.drop_drop]
          simp
        have m34 : (hd xs k1 != 34) = true := by
          have : hd xs k1 ≠ 34 := fun e => hq (.inl e)
          simpa using this
        have m39 : (hd xs k1 != 39) = true := by
          have : hd xs k1 ≠ 39 := fun e => hq (.inr e)
          simpa using this
        clear hu h40 hq k0 k1' k2 k3 k4 f0 f1 f2 f3 f4
        generalize hd xs k1 = ck at *
        go_wp2_with (go_at_call 39; fail)
        refine (ha2).mono ?_
        rintro e w' ⟨rfl, rfl⟩
        go_wp2_with (go_at_call 39; fail)
        refine (ha2).mono ?_
        rintro e w' ⟨rfl, rfl⟩
        go_wp2_with (go_at_call 59; fail)
        refine (hur).mono ?_
        rintro e w6 ⟨p6, rfl, hd6, hp6, hp7, b6⟩
        have hB6 := hB2.trans (b6.mono hB2.size)
        have hblk6 : w6.heap[w.heap.size]? = some (.cells #[.int .i64 0, .string ⟨#[]⟩, .string ⟨#[]⟩, .bool false, .bool false] 27 (0, 0)) := (b6.block _ hsz2).trans hblk2
        obtain ⟨k0, k1', k2, k3, k4, f0, f1, f2, f3, f4⟩ := zero_cells hblk6
        have HD6 := hid_mk hd6
        clear hd6
        obtain ⟨tk, hr, hur2⟩ : ∃ tk hr, urlZ (xs.drop (p1 + 1)) = (tk, hr) := ⟨_, _, rfl⟩
        rw [hur2] at HV HD6
        rw [hur2]
        have HT : Hid (tokV tk = .agg #[.int .i64 tk.kind, .string (strT tk.text), .string (strT tk.unit), .bool tk.whole, .bool tk.flag]) := rfl
        simp only [tokV]
        generalize tk.kind = t1 at *
        generalize strT tk.text = t2 at *
        generalize strT tk.unit = t3 at *
        generalize tk.whole = t4 at *
        generalize tk.flag = t5 at *
        clear hur2 hur
        go_wp2
        refine bodyPost_ret (v := .tuple #[.agg #[.int .i64 t1, .string t2, .string t3, .bool t4, .bool t5], .int .i64 (p6 : Int)]) (by simp [results, Try.results49, go_sem, k0, k1', k2, k3, k4]) rfl ⟨p6, by rw [HV.out, HT.out], by rw [HV.out, HD6.out], by omega, by omega, ?_⟩
        exact ((((hB6.setCell (Nat.le_refl _) _).setCell (Nat.le_refl _) _).setCell (Nat.le_refl _) _).setCell (Nat.le_refl _) _).setCell (Nat.le_refl _) _
  · have n40 : (hd xs p1 != 40) = true := by simpa using h40
    have HV : Hid (wordZ (xs.drop i) = (plainTok 1 nm, xs.drop p1)) := by
      show wordZ (xs.drop i) = _
      rw [HZ2.out, if_neg h40]
    have HDR : Hid (xs.drop p1 = xs.drop p1) := rfl
    obtain ⟨k0, k1, k2, k3, k4, f0, f1, f2, f3, f4⟩ := zero_cells hblk1
    clear h40
    generalize hd xs p1 = c at *
    go_wp2_with (go_at_call 39; fail)
    refine (ha).mono ?_
    rintro e w' ⟨rfl, rfl⟩
    go_wp2
    refine bodyPost_ret (v := .tuple #[.agg #[.int .i64 1, .string (strT nm), .string ⟨#[]⟩, .bool false, .bool false], .int .i64 ((p1 : Nat) : Int)]) (by simp [results, Try.results49, go_sem, k0, k1, k2, k3, k4]) rfl ⟨p1, by rw [HV.out]; rfl, by rw [HV.out], by omega, by omega, ?_⟩
    exact ((((hB1.setCell (Nat.le_refl _) _).setCell (Nat.le_refl _) _).setCell (Nat.le_refl _) _).setCell (Nat.le_refl _) _).setCell (Nat.le_refl _) _

end Go.Proofs.Ytihdiaklhkecmab
