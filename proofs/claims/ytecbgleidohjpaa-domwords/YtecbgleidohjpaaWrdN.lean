/- dom.Words, and the document's. -/
import Derived.Test.YtecbgleidohjpaaWrdM
import Derived.Test.YtecbgleidohjpaaAppN
import Derived.Shelf.Strings.FieldsFuncAny
import Derived.Shelf.Lay
import Derived.Ground.NamesProg
namespace Go.Proofs
open Go.Shelf
shelf_lay Lays.n229 Nm 229 at Try as Try.fieldsF
theorem Try.info9 : (Try.prog.info? 9).map (fun i => (i.zero, i.size, i.bytes)) = some (some (.string ⟨#[]⟩), 1, 16) := by kernel_rfl
theorem Try.info126 : (Try.prog.info? 126).map (fun i => (i.zero, i.size, i.bytes)) = some (some (.agg #[.int .i64 0, .int .i64 0]), 2, 16) := by kernel_rfl
end Go.Proofs
namespace Go.Proofs.Ytecbgleidohjpaa.N
open Go.RowKit Go.Lib
set_option maxRecDepth 100000

theorem blank_C (f : Nat) (hf : f = 45 ∨ f = 46) (x : Nat) (w : World) : Calls Try.prog f #[.int .i32 x] w fun e w' => e = .returned (.bool (blankN x)) ∧ w' = w := by
  have HR : Hid (blankN x = (((x : Int) == 32) || ((x : Int) == 9) || ((x : Int) == 10))) := by
    show _ = _
    unfold blankN
    have h : ∀ k : Nat, (x == k) = ((x : Int) == (k : Int)) := fun k => by
      rw [Bool.eq_iff_iff]; simp; omega
    rw [h, h, h]
    rfl
  generalize blankN x = R at *
  generalize (x : Int) = z at *
  rcases hf with rfl | rfl
  · by_cases h1 : z = 32
    · subst h1
      go_enter Try.func45, Try.ntmps45
      go_wp2
      go_ret
      exact ⟨by rw [HR.out]; rfl, rfl⟩
    · have h1' : (z == 32) = false := by simpa using h1
      by_cases h2 : z = 9
      · subst h2
        go_enter Try.func45, Try.ntmps45
        go_wp2
        go_ret
        exact ⟨by rw [HR.out]; rfl, rfl⟩
      · have h2' : (z == 9) = false := by simpa using h2
        go_enter Try.func45, Try.ntmps45
        go_wp2
        go_ret
        exact ⟨by rw [HR.out, h1', h2']; rfl, rfl⟩
  · by_cases h1 : z = 32
    · subst h1
      go_enter Try.func46, Try.ntmps46
      go_wp2
      go_ret
      exact ⟨by rw [HR.out]; rfl, rfl⟩
    · have h1' : (z == 32) = false := by simpa using h1
      by_cases h2 : z = 9
      · subst h2
        go_enter Try.func46, Try.ntmps46
        go_wp2
        go_ret
        exact ⟨by rw [HR.out]; rfl, rfl⟩
      · have h2' : (z == 9) = false := by simpa using h2
        go_enter Try.func46, Try.ntmps46
        go_wp2
        go_ret
        exact ⟨by rw [HR.out, h1', h2']; rfl, rfl⟩
theorem e45 : ∀ args w, (callFunc 45 args).run Try.prog w = .ok (.enter 45 args) w := enters_of Try.func45 (by kernel_rfl) rfl
def strsV (l : List ByteArray) : List Value := l.map Value.string
theorem strsV_one (l : List ByteArray) : ∀ u ∈ strsV l, u.oneCell' = true := by
  intro u hu
  obtain ⟨k, _, rfl⟩ := List.mem_map.1 hu
  rfl
theorem strsV_at {l : List ByteArray} {i : Nat} (h : i < l.length) : (strsV l)[i]? = some (.string l[i]) := by simp [strsV, h]
set_option maxHeartbeats 1000000 in
theorem words_any (s : ByteArray) (hs : s.size ≤ 3000) (w : World) : Calls Try.prog 19 #[.string s] w fun e w' => ∃ a c, e = .returned (.slice a (wordsL s).length c) ∧ RowAt w' 1 a (wordsL s).length c (strsV (wordsL s)) ∧ Below w.heap.size w w' := by
  have h := Any.strings_FieldsFunc_runes Try.fieldsF 45 #[] e45 blankN s w (by omega) (fun W x _ _ => by
    refine (blank_C 45 (.inl rfl) x W).mono ?_
    rintro e w' ⟨rfl, rfl⟩
    exact ⟨rfl, 0, rfl⟩) Try.info126 Try.info9
  change Calls Try.prog 44 _ _ _ at h
  rw [words_eq] at h
  generalize hL : wordsL s = L at *
  clear hL
  go_enter Try.func19, Try.ntmps19
  go_wp2_with (go_at_call 44; fail)
  refine h.mono ?_
  rintro e w1 ⟨A, rfl, _, hown, hB⟩
  obtain ⟨a, c, e, hr, _⟩ := RowAt.of_owns hown (strsV_one L)
  cases e
  have HR := hid_mk hr
  have HB := hid_mk hB
  clear h hown hr hB
  go_wp2
  go_ret
  exact ⟨_, _, rfl, HR.out, HB.out⟩
set_option maxHeartbeats 1000000 in
theorem texts_same {w : World} {a1 a2 : Option Addr} {c1 c2 n : Nat} {L : List ByteArray} (h1 : RowAt w 1 a1 n c1 (strsV L)) (h2 : RowAt w 1 a2 n c2 (strsV L)) (hn : n ≤ 100000) : Calls Try.prog 18 #[.slice a1 n c1, .slice a2 n c2] w fun e w' => e = .returned (.bool true) ∧ Below w.heap.size w w' := by
  have hl : L.length = n := by have := h1.1; simpa [strsV] using this
  have HC : Hid (∀ i (h : i < L.length), ∃ b1 o1 b2 o2, a1 = some ⟨b1, o1, none⟩ ∧ a2 = some ⟨b2, o2, none⟩ ∧ b1 < w.heap.size ∧ b2 < w.heap.size ∧ w.cell? ⟨b1, o1 + i, none⟩ = some (.string L[i]) ∧ w.cell? ⟨b2, o2 + i, none⟩ = some (.string L[i])) := fun i hi => by
    rcases h1.2.2.2.2 with ⟨_, h0⟩ | ⟨b1, o1, e1, l1, g1⟩
    · have := h1.2.1; omega
    · rcases h2.2.2.2.2 with ⟨_, h0⟩ | ⟨b2, o2, e2, l2, g2⟩
      · have := h2.2.1; omega
      · exact ⟨b1, o1, b2, o2, e1, e2, l1, l2, g1 i _ (strsV_at hi), g2 i _ (strsV_at hi)⟩
  have hc1 := h1.2.1
  have hc2 := h2.2.1
  have HLN := hid_mk hl
  clear h1 h2 hl
  go_enter Try.func18, Try.ntmps18
  go_wp2
  go_loopw [13] (fun a13 wr => ∃ i : Nat, a13 = .int .i64 i ∧ i ≤ n ∧ Below w.heap.size w wr) (fun a13 _ => n + 1 - (intOf a13).toNat)
  case atStart => exact ⟨0, rfl, Nat.zero_le _, Below.refl _ _⟩
  case round =>
    obtain ⟨i, rfl, hi, hB⟩ := hrel
    by_cases hlt : i < n
    · obtain ⟨b1, o1, b2, o2, rfl, rfl, l1, l2, q1, q2⟩ := HC.out i (by rw [HLN.out]; exact hlt)
      have r1 := (hB.cell (p := ⟨b1, o1 + i, none⟩) l1).trans q1
      have r2 := (hB.cell (p := ⟨b2, o2 + i, none⟩) l2).trans q2
      generalize L[i]'(by rw [HLN.out]; exact hlt) = x at *
      have HB := hid_mk hB
      clear q1 q2 HC hB HLN
      go_upto_region 6 with (fail)
      go_quiet (fail)
      go_wp2
      exact ⟨⟨i + 1, by go_num, by omega, ⟨HB.out.os, HB.out.tape, HB.out.output, HB.out.size, HB.out.block⟩⟩, by simp only [intOf]; omega⟩
    · obtain rfl : i = n := by omega
      have HB := hid_mk hB
      clear hB HC HLN
      go_wp2
      go_ret
      exact ⟨rfl, HB.out⟩

theorem ext_cat (s : ByteArray) {a i : Nat} (h1 : a ≤ i) (h2 : i < s.size) : s.extract a i ++ s.extract i (i + 1) = s.extract a (i + 1) := by
  apply ByteArray.ext
  rw [ByteArray.data_append, ByteArray.data_extract, ByteArray.data_extract, ByteArray.data_extract]
  apply Array.ext'
  simp only [Array.toList_append, Array.toList_extract, List.extract_eq_take_drop]
  have e1 : List.take (i - a + 1) (List.drop a s.data.toList) = List.take (i - a) (List.drop a s.data.toList) ++ (List.drop a s.data.toList)[i - a]?.toList := List.take_add_one
  rw [show i + 1 - a = (i - a) + 1 by omega, show i + 1 - i = 1 by omega, e1, List.getElem?_drop, show a + (i - a) = i by omega]
  have : i < s.data.toList.length := by simpa using h2
  rw [List.drop_eq_getElem_cons this, List.getElem?_eq_getElem this]
  simp
theorem open_non {s : ByteArray} {i : Nat} (hi : i < s.size) (hb : blankN (s.get! i).toNat = false) : openW s (i + 1) = openW s i ++ s.extract i (i + 1) ∧ (runB s (i + 1)).2 = (runB s i).2 := by
  have hlt := (runB_lt s i).1
  unfold openW
  rw [runB, stepB, hb, if_neg (by simp)]
  refine ⟨?_, rfl⟩
  dsimp only
  cases e : (runB s i).1 with
  | none =>
    dsimp only [Option.getD]
    apply ByteArray.ext
    simp
  | some a =>
    dsimp only [Option.getD]
    exact (ext_cat s (Nat.le_of_lt (hlt a e)) hi).symm
theorem open_blank {s : ByteArray} {i : Nat} (hb : blankN (s.get! i).toNat = true) : openW s (i + 1) = ⟨#[]⟩ ∧ pieces s (runB s (i + 1)).2 = pieces s (runB s i).2 ++ (if (openW s i).data.toList = [] ∧ (runB s i).1 = none then [] else [openW s i]) := by
  unfold openW
  rw [runB, stepB, hb, if_pos rfl]
  refine ⟨rfl, ?_⟩
  dsimp only
  cases e : (runB s i).1 with
  | none => simp
  | some a => simp [pieces]
theorem open_end (s : ByteArray) : wordsL s = pieces s (runB s s.size).2 ++ (if (openW s s.size).data.toList = [] ∧ (runB s s.size).1 = none then [] else [openW s s.size]) := by
  unfold wordsL Lib.closeSpans openW
  dsimp only
  cases e : (runB s s.size).1 with
  | none => simp
  | some a => simp [pieces]
theorem open_size {s : ByteArray} {i : Nat} (hi : i ≤ s.size) : ((openW s i).data.toList = [] ↔ (runB s i).1 = none) ∧ (openW s i).size ≤ s.size := by
  have hlt := (runB_lt s i).1
  unfold openW
  cases e : (runB s i).1 with
  | none => exact ⟨by simp, Nat.zero_le _⟩
  | some a =>
    have := hlt a e
    dsimp only
    refine ⟨⟨fun h => ?_, fun h => by cases h⟩, by rw [ByteArray.size_extract]; omega⟩
    exfalso
    have h2 := congrArg List.length h
    simp at h2
    omega

theorem RowAt.oneS {w W : World} {k : ByteArray} (h : W.heap[w.heap.size]? = some (.cells #[.string k] 9 (0, 0))) : RowAt W 1 (some ⟨w.heap.size, 0, none⟩) 1 1 [.string k] := by
  refine ⟨rfl, Nat.le_refl _, by decide, by intro u hu; simp at hu; subst hu; rfl, .inr ⟨_, _, rfl, (Array.getElem?_eq_some_iff.1 h).1, fun j u hu => ?_⟩⟩
  have hj := (List.getElem?_eq_some_iff.1 hu).1
  obtain rfl : j = 0 := by simp at hj; omega
  simp at hu
  subst hu
  simp [World.cell?, h]
set_option maxHeartbeats 4000000 in
theorem rwords_any (s : ByteArray) (hs : s.size ≤ 3000) (w : World) : Calls Try.prog 20 #[.string s] w fun e w' => ∃ a c, e = .returned (.slice a (wordsL s).length c) ∧ RowAt w' 1 a (wordsL s).length c (strsV (wordsL s)) ∧ Below w.heap.size w w' := by
  obtain ⟨i0, hi0, hz0, hz1, hz2⟩ := info_parts Try.info9
  have HBL : Hid (∀ x W, Calls Try.prog 46 #[.int .i32 (x : Nat)] W fun e w' => e = .returned (.bool (blankN x)) ∧ w' = W) := fun x W => blank_C 46 (.inr rfl) x W
  go_enter Try.func20, Try.ntmps20
  go_wp2
  go_loopw [3, 4, 5] (fun a3 a4 a5 wr => ∃ i : Nat, a5 = .int .i64 i ∧ ((i ≤ s.size ∧ a4 = .string (openW s i) ∧ Hid (wr.ownsRow w.heap.size 9 1 a3 (pieces s (runB s i).2).length (strsV (pieces s (runB s i).2)))) ∨ (i = s.size + 1 ∧ a4 = .string ⟨#[]⟩ ∧ Hid (wr.ownsRow w.heap.size 9 1 a3 (wordsL s).length (strsV (wordsL s))))) ∧ Hid (Below w.heap.size w wr)) (fun _ _ a5 _ => s.size + 2 - (intOf a5).toNat)
  case atStart => exact ⟨0, rfl, .inl ⟨Nat.zero_le _, rfl, hid_mk (World.ownsRow_nil _ _ _ _)⟩, hid_mk (Below.refl _ _)⟩
  case round =>
    obtain ⟨i, rfl, hcase, HB⟩ := hrel
    rcases hcase with ⟨hi, rfl, HO⟩ | ⟨rfl, rfl, HO⟩
    · obtain ⟨hemp, hsz⟩ := open_size hi
      by_cases hlt : i < s.size
      · have hbl := HBL.out (s.get! i).toNat wr
        have hx : (Value.int .i32 ((s.get! i).toNat : Nat)) = .int .i32 (wrap32 ((s[i]'hlt).toNat : Int)) := by
          have h1 : s.get! i = s[i]'hlt := by simp [ByteArray.get!, hlt, getElem!_pos]; rfl
          have h2 := (s[i]'hlt).toNat_lt
          rw [h1]
          congr 1
          unfold wrap32
          omega
        rw [hx] at hbl
        have HX := hid_mk hx
        clear hx
        cases hb : blankN (s.get! i).toNat with
        | false =>
          obtain ⟨ho1, ho2⟩ := open_non hlt hb
          rw [hb] at hbl
          have HO1 := hid_mk ho1
          have HO2 := hid_mk ho2
          clear ho1 ho2 hb hemp
          generalize openW s i = ow at *
          go_wp2_with (go_at_call 46; refine hbl.mono ?_; clear hbl; rintro e wx ⟨rfl, rfl⟩)
          exact ⟨⟨i + 1, by go_num, .inl ⟨by omega, by rw [HO1.out], by rw [HO2.out]; exact HO⟩, HB⟩, by simp only [intOf]; omega⟩
        | true =>
          obtain ⟨ho1, ho2⟩ := open_blank hb
          rw [hb] at hbl
          clear hb
          have HO1 := hid_mk ho1
          clear ho1
          by_cases he : (openW s i).data.toList = []
          · rw [if_pos ⟨he, hemp.1 he⟩, List.append_nil] at ho2
            have HO2 := hid_mk ho2
            have hz : openW s i = ⟨#[]⟩ := by
              apply ByteArray.ext
              exact Array.toList_eq_nil_iff.1 he
            rw [hz]
            clear ho2 hemp he hz hsz
            go_wp2_with (go_at_call 46; refine hbl.mono ?_; clear hbl; rintro e wx ⟨rfl, rfl⟩)
            exact ⟨⟨i + 1, by go_num, .inl ⟨by omega, by rw [HO1.out], by rw [HO2.out]; exact HO⟩, HB⟩, by simp only [intOf]; omega⟩
          · rw [if_neg (fun hc => he hc.1)] at ho2
            have HO2 := hid_mk ho2
            have hne3 : ((openW s i).toList == []) = false := by
              rw [ByteArray.toList_eq]
              cases hd : (openW s i).data.toList with
              | nil => exact absurd hd he
              | cons a r => rfl
            have hA1 : Below wr.heap.size wr (wr.alloc (.cells #[.string (openW s i)] 9)) := (Below.refl _ wr).alloc (Nat.le_refl _) _
            have hrow : RowAt (wr.alloc (.cells #[.string (openW s i)] 9)) 1 (some ⟨wr.heap.size, 0, none⟩) 1 1 [.string (openW s i)] := RowAt.oneS (heap_alloc_last wr _)
            have hown := ownsRow_below HO.out hA1
            have HBA : Hid (Below w.heap.size w (wr.alloc (.cells #[.string (openW s i)] 9))) := HB.out.trans (hA1.mono HB.out.size)
            have hBs := HBA.out.size
            have hpl : (pieces s (runB s i).2).length ≤ 3000 := by
              have := (runB_lt s i).2
              unfold pieces
              rw [List.length_map]
              omega
            clear ho2 hemp he hA1 HO
            generalize openW s i = ow at *
            generalize hPL : (pieces s (runB s i).2).length = PL at *
            have HPL := hid_mk hPL
            clear hPL
            go_wp2_with (first | (go_at_call 46; refine hbl.mono ?_; clear hbl; rintro e wx ⟨rfl, rfl⟩) | (at_builtin; go_must (refine wpList_append_rowAt rfl _ _ 43 rfl (B := w.heap.size) Try.underlying43 hi0 hz0 hz1 hz2 rfl (by decide) (by decide) rfl rfl hown hrow (by omega) hBs ?_); intro v' w2 hown2 hgrow2 _; have HOW := hid_mk hown2; have HG2 := hid_mk hgrow2; clear hown2 hgrow2))
            have hlx : strsV (pieces s (runB s i).2 ++ [ow]) = strsV (pieces s (runB s i).2) ++ [.string ow] := by simp [strsV]
            have hly : (pieces s (runB s i).2 ++ [ow]).length = PL + 1 := by rw [List.length_append, HPL.out]; rfl
            exact ⟨⟨i + 1, by go_num, .inl ⟨by omega, by rw [HO1.out], by rw [HO2.out]; exact (by rw [hlx, hly]; exact HOW)⟩, hid_mk (HBA.out.grown HG2.out HBA.out.size (fun k hk => (hown.lt k hk).1))⟩, by simp only [intOf]; omega⟩
      · obtain rfl : i = s.size := by omega
        have ho2 := open_end s
        clear hlt
        by_cases he : (openW s s.size).data.toList = []
        · rw [if_pos ⟨he, hemp.1 he⟩, List.append_nil] at ho2
          have HO2 := hid_mk ho2
          have hz : openW s s.size = ⟨#[]⟩ := by
            apply ByteArray.ext
            exact Array.toList_eq_nil_iff.1 he
          rw [hz]
          clear ho2 hemp he hz hsz
          go_wp2
          exact ⟨⟨s.size + 1, by go_num, .inr ⟨rfl, rfl, by rw [HO2.out]; exact HO⟩, HB⟩, by simp only [intOf]; omega⟩
        · rw [if_neg (fun hc => he hc.1)] at ho2
          have HO2 := hid_mk ho2
          have hne3 : ((openW s s.size).toList == []) = false := by
            rw [ByteArray.toList_eq]
            cases hd : (openW s s.size).data.toList with
            | nil => exact absurd hd he
            | cons a r => rfl
          have hA1 : Below wr.heap.size wr (wr.alloc (.cells #[.string (openW s s.size)] 9)) := (Below.refl _ wr).alloc (Nat.le_refl _) _
          have hrow : RowAt (wr.alloc (.cells #[.string (openW s s.size)] 9)) 1 (some ⟨wr.heap.size, 0, none⟩) 1 1 [.string (openW s s.size)] := RowAt.oneS (heap_alloc_last wr _)
          have hown := ownsRow_below HO.out hA1
          have HBA : Hid (Below w.heap.size w (wr.alloc (.cells #[.string (openW s s.size)] 9))) := HB.out.trans (hA1.mono HB.out.size)
          have hBs := HBA.out.size
          have hpl : (pieces s (runB s s.size).2).length ≤ 3000 := by
            have := (runB_lt s s.size).2
            unfold pieces
            rw [List.length_map]
            omega
          clear ho2 hemp he hA1 HO
          generalize openW s s.size = ow at *
          generalize hPL : (pieces s (runB s s.size).2).length = PL at *
          have HPL := hid_mk hPL
          clear hPL
          go_wp2_with (first | (at_builtin; go_must (refine wpList_append_rowAt rfl _ _ 43 rfl (B := w.heap.size) Try.underlying43 hi0 hz0 hz1 hz2 rfl (by decide) (by decide) rfl rfl hown hrow (by omega) hBs ?_); intro v' w2 hown2 hgrow2 _; have HOW := hid_mk hown2; have HG2 := hid_mk hgrow2; clear hown2 hgrow2))
          have hlx : strsV (pieces s (runB s s.size).2 ++ [ow]) = strsV (pieces s (runB s s.size).2) ++ [.string ow] := by simp [strsV]
          have hly : (pieces s (runB s s.size).2 ++ [ow]).length = PL + 1 := by rw [List.length_append, HPL.out]; rfl
          exact ⟨⟨s.size + 1, by go_num, .inr ⟨rfl, rfl, by rw [HO2.out]; exact (by rw [hlx, hly]; exact HOW)⟩, hid_mk (HBA.out.grown HG2.out HBA.out.size (fun k hk => (hown.lt k hk).1))⟩, by simp only [intOf]; omega⟩
    · obtain ⟨a, c, rfl, hr, _⟩ := RowAt.of_owns HO.out (strsV_one _)
      have HR := hid_mk hr
      clear hr HO
      generalize hWL : wordsL s = WL at *
      have HWL := hid_mk hWL
      clear hWL
      go_wp2
      go_ret
      rw [HWL.out]
      exact ⟨_, _, rfl, HR.out, HB.out⟩

end Go.Proofs.Ytecbgleidohjpaa.N
