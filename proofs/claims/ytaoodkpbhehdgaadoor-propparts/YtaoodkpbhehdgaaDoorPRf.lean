/- The document's Forms. -/
import Derived.Test.YtaoodkpbhehdgaaDoorPSl
namespace Go.Proofs.YtaoodkpbhehdgaaDoor
open Go.RowKit
set_option maxRecDepth 100000

theorem info9 : (Tryd.prog.info? 9).map (fun i => (i.zero, i.size, i.bytes)) = some (some (.string ⟨#[]⟩), 1, 16) := by kernel_rfl
/-- Behind an append onto a row of one's own. -/
theorem app_on {wr w2 w : World} {b : Nat} {o : Obj} {v v' : Value} {n : Nat} {xs ys : List Value} {m : Nat} {t : TypeId} {cs : Array Value} (how : wr.ownsRow (b + 1) 9 1 v n xs) (hx : Bx wr b t cs) (hb : Below b w wr) (hw : b ≤ w.heap.size)
    (hown : w2.ownsRow (b + 1) 9 1 v' (m + 1) ys) (hg : (wr.alloc o).grownBy w2 v.ownBlock) : (∃ g cap, v' = .slice (some ⟨g, 0, none⟩) (m + 1) cap) ∧ Bx w2 b t cs ∧ Below b w w2 := by
  have hlow : ∀ k, v.ownBlock = some k → b + 1 ≤ k := fun k e => (World.ownsRow.lt how k e).1
  refine ⟨ownsRow_succ hown, (hx.alloc o).kept hg (fun e => ?_), ?_⟩
  · have := hlow b e.symm
    omega
  · have h1 : Below b w (wr.alloc o) := hb.alloc (Nat.le_trans hw hb.size) o
    exact h1.grown hg (Nat.le_trans hw h1.size) (fun k e => by have := hlow k e; omega)
theorem drop_cons {fs : List UInt8} {i : Nat} {x : UInt8} (h : fs[i]? = some x) : fs.drop i = x :: fs.drop (i + 1) := by
  obtain ⟨hlt, rfl⟩ := List.getElem?_eq_some_iff.1 h
  exact List.drop_eq_getElem_cons hlt
theorem ext_one (s : ByteArray) (i : Nat) (h : i < s.size) : (s.extract i (i + 1)).data.toList = [s[i]] := by
  rw [Lib.extract_data]
  have hl : i < s.data.toList.length := by rw [← Lib.size_eq]; exact h
  have : (s.data.toList.drop i).take (i + 1 - i) = [s.data.toList[i]] := by
    rw [List.drop_eq_getElem_cons hl]
    simp
  first
    | exact this
    | (simp only [List.take_drop] at this ⊢; simpa using this)
theorem sl_str (s : ByteArray) (i : Nat) (h : i < s.size) (w : World) : (Instr.slice 9 (.string s) (some (.int .i64 (i : Int))) (some (.int .i64 ((i : Int) + 1))) none).run Tryd.prog w = .ok (.string (s.extract i (i + 1))) w := by
  have h1 : (0 : Int) ≤ (i : Int) + 1 := by omega
  have h2 : (i : Int) + 1 ≤ (s.size : Int) := by omega
  have h3 : (i : Int) ≤ (i : Int) + 1 := by omega
  have h4 : ((i : Int) + 1).toNat = i + 1 := by omega
  simp [Instr.slice, run_underlying Tryd.underlying9, Instr.sliceBounds, run_sliceBound, h1, h2, h3, h4]

set_option maxHeartbeats 2000000 in
theorem rforms_any (p : Pr) (w : World) (hf : p.f.size ≤ 1000) : Calls Tryd.prog 15 #[.agg (c4 p)] w fun e w' => (∃ a c, e = .returned (.slice a (prts p.f).length c) ∧ StrAt w' (.slice a (prts p.f).length c) (prts p.f)) ∧ Below w.heap.size w w' := by
  obtain ⟨i0, hi, hz0, hz1, hz2⟩ := info_parts info9
  have HI0 := hid_mk hi
  have HZ0 := hid_mk hz0
  have HZ1 := hid_mk hz1
  have HZ2 := hid_mk hz2
  clear hi hz0 hz1 hz2
  obtain ⟨pn, pi, ph, pf⟩ := p
  dsimp only at hf ⊢
  have hX0 := Bx.new w 27 (c4 ⟨pn, pi, ph, pf⟩)
  have hB0 : Below w.heap.size w (w.alloc (.cells (c4 ⟨pn, pi, ph, pf⟩) 27)) := (Below.refl _ w).alloc (Nat.le_refl _) _
  have HX0 := hid_mk hX0
  have HB0 := hid_mk hB0
  have HOW0 : Hid ((w.alloc (.cells (c4 ⟨pn, pi, ph, pf⟩) 27)).ownsRow (w.heap.size + 1) 9 1 (.slice none 0 0) 0 []) := World.ownsRow_nil _ _ _ _
  have HC0 : Hid ([] ++ rF (pf.data.toList.drop 0) [] = cut pf.data.toList) := by
    rw [Hid, List.drop_zero, rF_cut]
    rfl
  have hn : pf.data.toList.length = pf.size := (Lib.size_eq pf).symm
  have HN := hid_mk hn
  have HL : Hid (∀ L : List ByteArray, L.map (·.data.toList) = cut pf.data.toList → L = prts pf) := fun L h => of_data h
  obtain ⟨fs, hfs⟩ : ∃ fs, fs = pf.data.toList := ⟨_, rfl⟩
  rw [← hfs] at HC0 HN HL
  have HFS := hid_mk hfs
  obtain ⟨b, hb⟩ : ∃ b, b = w.heap.size := ⟨_, rfl⟩
  have HBE := hid_mk hb
  clear hX0 hB0 hn hfs hb
  go_enter Tryd.func15, Tryd.ntmps15
  go_wp2
  go_loopw [3, 4, 5] (fun a3 a4 a5 wr => ∃ (done : List ByteArray) (cur : ByteArray) (i : Nat) (oa : Option Addr) (on oc : Nat), a3 = .slice oa on oc ∧ a4 = .string cur ∧ a5 = .int .i64 (i : Int) ∧ i ≤ pf.size ∧ cur.size ≤ i ∧ on ≤ i ∧ Hid (on = done.length) ∧ Hid (wr.ownsRow (w.heap.size + 1) 9 1 (.slice oa on oc) on (done.map Value.string)) ∧ Hid (done.map (·.data.toList) ++ rF (fs.drop i) cur.data.toList = cut fs) ∧ Hid (Bx wr w.heap.size 27 (c4 ⟨pn, pi, ph, pf⟩)) ∧ Hid (Below w.heap.size w wr)) (fun _ _ a5 _ => pf.size + 1 - (intOf a5).toNat)
  case atStart => exact ⟨[], ⟨#[]⟩, 0, _, _, _, rfl, rfl, rfl, Nat.zero_le _, Nat.zero_le _, Nat.zero_le _, rfl, HOW0, HC0, HX0, HB0⟩
  case round =>
    obtain ⟨done, cur, i, oa, on, oc, rfl, rfl, rfl, hi, hcs, hon, HON, HOW, HC, HX, HB⟩ := hrel
    have q4 : wr.cell? ⟨w.heap.size, 3, none⟩ = some (.string pf) := HX.out.cell 3 _ rfl
    have HOA := hid_mk (HOW.out.alloc (.cells #[Value.string cur] 9))
    have HSZ : Hid (w.heap.size + 1 ≤ (wr.alloc (.cells #[Value.string cur] 9)).heap.size) := by
      have := HX.out.lt
      rw [Hid, World.size_alloc]
      omega
    have HNW := hid_mk (cell_one_new wr (Value.string cur) 9)
    have HAP : Hid (∀ v' w2, w2.ownsRow (w.heap.size + 1) 9 1 v' (on + 1) (done.map Value.string ++ [Value.string cur]) → (wr.alloc (.cells #[Value.string cur] 9)).grownBy w2 (Value.slice oa on oc).ownBlock → (∃ g cap, v' = .slice (some ⟨g, 0, none⟩) (on + 1) cap) ∧ Bx w2 w.heap.size 27 (c4 ⟨pn, pi, ph, pf⟩) ∧ Below w.heap.size w w2) := fun v' w2 h1 h2 => app_on HOW.out HX.out HB.out (Nat.le_refl _) h1 h2
    by_cases hlt : i < pf.size
    · obtain ⟨x, hxe⟩ : ∃ x, pf[i] = x := ⟨_, rfl⟩
      have hx : fs[i]? = some x := by
        rw [HFS.out, ← hxe]
        have hl : i < pf.data.toList.length := by rw [← Lib.size_eq]; exact hlt
        rw [List.getElem?_eq_getElem hl]
        rfl
      have HDR := hid_mk (drop_cons hx)
      clear hx
      cases hb : ((pf[i].toNat : Int) == 124) with
      | true =>
        have HC2 : Hid ((done ++ [cur]).map (·.data.toList) ++ rF (fs.drop (i + 1)) [] = cut fs) := by
          have hx2 : x = 124 := by
            rw [beq_iff_eq] at hb
            rw [← hxe]
            have hb2 : pf[i].toNat = 124 := by omega
            exact UInt8.toNat_inj.1 hb2
          have := HC.out
          rw [HDR.out, hx2] at this
          simp only [rF, if_true] at this
          rw [Hid, ← this]
          simp
        clear HC HDR hxe HX HB HOW HC0 HX0 HB0 HOW0 HFS HL HN
        go_wp2_with (at_builtin; with_reducible refine wpList_append_own _ rfl _ _ 32 rfl (w.heap.size + 1) 9 i0 (.string ⟨#[]⟩) 1 16 Tryd.underlying32 HI0.out HZ0.out HZ1.out HZ2.out rfl (by decide) (.slice oa on oc) on (done.map Value.string) rfl HOA.out ⟨wr.heap.size, 0, none⟩ 1 1 [Value.string cur] rfl rfl HNW.out ?c0 ?c1 ?c2 ?c3 ?_)
        case c0 => simp [Value.oneCell']
        case c1 => unfold maxLen; omega
        case c2 => omega
        case c3 => exact HSZ.out
        intro v' w2 hown hg _
        obtain ⟨⟨g, cap, rfl⟩, hx2, hb2⟩ := HAP.out v' w2 hown hg
        have HOW2 : Hid (w2.ownsRow (w.heap.size + 1) 9 1 (.slice (some ⟨g, 0, none⟩) (on + 1) cap) (on + 1) ((done ++ [cur]).map Value.string)) := by
          rw [Hid, List.map_append]
          exact hown
        have HX2 := hid_mk hx2
        have HB2 := hid_mk hb2
        have HON2 : Hid (on + 1 = (done ++ [cur]).length) := by
          rw [Hid, HON.out]
          simp
        clear hown hg hx2 hb2 HAP HNW HOA HSZ HON
        go_wp2
        refine ⟨⟨done ++ [cur], ⟨#[]⟩, i + 1, _, _, _, rfl, rfl, by simp, by omega, Nat.zero_le _, by omega, HON2, HOW2, HC2, HX2, HB2⟩, ?_⟩
        simp only [intOf]
        omega
      | false =>
        have HE : Hid ((cur ++ pf.extract i (i + 1)).data.toList = cur.data.toList ++ [x]) := by
          rw [Hid, ByteArray.data_append, Array.toList_append, ext_one pf i hlt, hxe]
        have HC2 : Hid (done.map (·.data.toList) ++ rF (fs.drop (i + 1)) (cur ++ pf.extract i (i + 1)).data.toList = cut fs) := by
          have hx2 : x ≠ 124 := fun e => by
            rw [beq_eq_false_iff_ne] at hb
            rw [e] at hxe
            apply hb
            rw [hxe]
            rfl
          have := HC.out
          rw [HDR.out] at this
          simp only [rF, if_neg hx2] at this
          rw [Hid, ← this, HE.out]
        have hes : (pf.extract i (i + 1)).size = 1 := by
          rw [ByteArray.size_extract]
          omega
        have hcs2 : (cur ++ pf.extract i (i + 1)).size ≤ i + 1 := by
          rw [ByteArray.size_append, hes]
          omega
        have hes2 : (pf.extract i (i + 1)).size ≤ 1 := by omega
        have HES := hid_mk hcs2
        clear HC HDR hxe HC0 HX0 HB0 HOW0 HFS HL HN HAP HNW HOA HSZ HE hes hcs2
        have hsl := fun w => sl_str pf i hlt w
        go_wp2
        refine ⟨⟨done, _, i + 1, _, _, _, rfl, rfl, by simp, by omega, HES.out, by omega, HON, HOW, HC2, HX, HB⟩, ?_⟩
        simp only [intOf]
        omega
    · obtain rfl : i = pf.size := by omega
      have HLL : Hid (done ++ [cur] = prts pf) := by
        refine HL.out _ ?_
        have := HC.out
        rw [List.drop_of_length_le (by have := HN.out; omega)] at this
        rw [← this]
        simp [rF]
      clear HC HC0 HX0 HB0 HOW0 HFS HL HN HX HB HOW
      go_wp2_with (at_builtin; with_reducible refine wpList_append_own _ rfl _ _ 32 rfl (w.heap.size + 1) 9 i0 (.string ⟨#[]⟩) 1 16 Tryd.underlying32 HI0.out HZ0.out HZ1.out HZ2.out rfl (by decide) (.slice oa on oc) on (done.map Value.string) rfl HOA.out ⟨wr.heap.size, 0, none⟩ 1 1 [Value.string cur] rfl rfl HNW.out ?c0 ?c1 ?c2 ?c3 ?_)
      case c0 => simp [Value.oneCell']
      case c1 => unfold maxLen; omega
      case c2 => omega
      case c3 => exact HSZ.out
      intro v' w2 hown hg _
      obtain ⟨⟨g, cap, rfl⟩, _, hb2⟩ := HAP.out v' w2 hown hg
      have HB2 := hid_mk hb2
      have HST : Hid (StrAt w2 (.slice (some ⟨g, 0, none⟩) (on + 1) cap) (prts pf) ∧ on + 1 = (prts pf).length) := by
        rw [Hid, ← HLL.out]
        refine ⟨StrAt.of (B := w.heap.size + 1) ?_, by rw [HON.out]; simp⟩
        rw [List.length_append, List.length_singleton, ← HON.out, List.map_append]
        exact hown
      clear hown hg hb2 HAP HNW HOA HSZ
      go_wp2
      go_ret
      rw [← HST.out.2]
      exact ⟨⟨_, _, rfl, HST.out.1⟩, HB2.out⟩
end Go.Proofs.YtaoodkpbhehdgaaDoor
