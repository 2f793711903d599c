/- prop.Longs. -/
import Derived.Test.YtaoodkpbhehdgaaPSi
namespace Go.Proofs.Ytaoodkpbhehdgaa
open Go.RowKit
set_option maxRecDepth 100000

theorem str_of {s : ByteArray} {l : List UInt8} (h : (s.toList == l) = true) : s = ⟨l.toArray⟩ := by
  rw [beq_iff_eq, ByteArray.toList_eq] at h
  subst h
  rfl
theorem lgs_M {name : ByteArray} (h : (name.toList == [109, 97, 114, 103, 105, 110]) = true) : lgs name = LM := by
  rw [str_of h]
  kernel_rfl
theorem lgs_P {name : ByteArray} (h : (name.toList == [112, 97, 100, 100, 105, 110, 103]) = true) : lgs name = LP := by
  rw [str_of h]
  kernel_rfl
theorem lgs_W {name : ByteArray} (h : (name.toList == [98, 111, 114, 100, 101, 114, 45, 119, 105, 100, 116, 104]) = true) : lgs name = LW := by
  rw [str_of h]
  kernel_rfl
theorem lgs_S {name : ByteArray} (h : (name.toList == [98, 111, 114, 100, 101, 114, 45, 115, 116, 121, 108, 101]) = true) : lgs name = LS := by
  rw [str_of h]
  kernel_rfl
theorem lgs_C {name : ByteArray} (h : (name.toList == [98, 111, 114, 100, 101, 114, 45, 99, 111, 108, 111, 114]) = true) : lgs name = LC := by
  rw [str_of h]
  kernel_rfl
theorem lgs_O {name : ByteArray} (h : (name.toList == [111, 118, 101, 114, 102, 108, 111, 119]) = true) : lgs name = LO := by
  rw [str_of h]
  kernel_rfl
theorem lgs_none {name : ByteArray} (hM : (name.toList == [109, 97, 114, 103, 105, 110]) = false) (hP : (name.toList == [112, 97, 100, 100, 105, 110, 103]) = false) (hW : (name.toList == [98, 111, 114, 100, 101, 114, 45, 119, 105, 100, 116, 104]) = false) (hS : (name.toList == [98, 111, 114, 100, 101, 114, 45, 115, 116, 121, 108, 101]) = false) (hC : (name.toList == [98, 111, 114, 100, 101, 114, 45, 99, 111, 108, 111, 114]) = false) (hO : (name.toList == [111, 118, 101, 114, 102, 108, 111, 119]) = false) : lgs name = [] := by
  unfold lgs nM nP nW nS nC nO
  rw [hM, hP, hW, hS, hC, hO]
  rfl
theorem ne_MP {name : ByteArray} (h : (name.toList == [109, 97, 114, 103, 105, 110]) = true) : (name.toList == [112, 97, 100, 100, 105, 110, 103]) = false := by
  rw [beq_iff_eq] at h
  rw [h]
  rfl
theorem ne_MW {name : ByteArray} (h : (name.toList == [109, 97, 114, 103, 105, 110]) = true) : (name.toList == [98, 111, 114, 100, 101, 114, 45, 119, 105, 100, 116, 104]) = false := by
  rw [beq_iff_eq] at h
  rw [h]
  rfl
theorem ne_MS {name : ByteArray} (h : (name.toList == [109, 97, 114, 103, 105, 110]) = true) : (name.toList == [98, 111, 114, 100, 101, 114, 45, 115, 116, 121, 108, 101]) = false := by
  rw [beq_iff_eq] at h
  rw [h]
  rfl
theorem ne_MC {name : ByteArray} (h : (name.toList == [109, 97, 114, 103, 105, 110]) = true) : (name.toList == [98, 111, 114, 100, 101, 114, 45, 99, 111, 108, 111, 114]) = false := by
  rw [beq_iff_eq] at h
  rw [h]
  rfl
theorem ne_MO {name : ByteArray} (h : (name.toList == [109, 97, 114, 103, 105, 110]) = true) : (name.toList == [111, 118, 101, 114, 102, 108, 111, 119]) = false := by
  rw [beq_iff_eq] at h
  rw [h]
  rfl
theorem ne_PM {name : ByteArray} (h : (name.toList == [112, 97, 100, 100, 105, 110, 103]) = true) : (name.toList == [109, 97, 114, 103, 105, 110]) = false := by
  rw [beq_iff_eq] at h
  rw [h]
  rfl
theorem ne_PW {name : ByteArray} (h : (name.toList == [112, 97, 100, 100, 105, 110, 103]) = true) : (name.toList == [98, 111, 114, 100, 101, 114, 45, 119, 105, 100, 116, 104]) = false := by
  rw [beq_iff_eq] at h
  rw [h]
  rfl
theorem ne_PS {name : ByteArray} (h : (name.toList == [112, 97, 100, 100, 105, 110, 103]) = true) : (name.toList == [98, 111, 114, 100, 101, 114, 45, 115, 116, 121, 108, 101]) = false := by
  rw [beq_iff_eq] at h
  rw [h]
  rfl
theorem ne_PC {name : ByteArray} (h : (name.toList == [112, 97, 100, 100, 105, 110, 103]) = true) : (name.toList == [98, 111, 114, 100, 101, 114, 45, 99, 111, 108, 111, 114]) = false := by
  rw [beq_iff_eq] at h
  rw [h]
  rfl
theorem ne_PO {name : ByteArray} (h : (name.toList == [112, 97, 100, 100, 105, 110, 103]) = true) : (name.toList == [111, 118, 101, 114, 102, 108, 111, 119]) = false := by
  rw [beq_iff_eq] at h
  rw [h]
  rfl
theorem ne_WM {name : ByteArray} (h : (name.toList == [98, 111, 114, 100, 101, 114, 45, 119, 105, 100, 116, 104]) = true) : (name.toList == [109, 97, 114, 103, 105, 110]) = false := by
  rw [beq_iff_eq] at h
  rw [h]
  rfl
theorem ne_WP {name : ByteArray} (h : (name.toList == [98, 111, 114, 100, 101, 114, 45, 119, 105, 100, 116, 104]) = true) : (name.toList == [112, 97, 100, 100, 105, 110, 103]) = false := by
  rw [beq_iff_eq] at h
  rw [h]
  rfl
theorem ne_WS {name : ByteArray} (h : (name.toList == [98, 111, 114, 100, 101, 114, 45, 119, 105, 100, 116, 104]) = true) : (name.toList == [98, 111, 114, 100, 101, 114, 45, 115, 116, 121, 108, 101]) = false := by
  rw [beq_iff_eq] at h
  rw [h]
  rfl
theorem ne_WC {name : ByteArray} (h : (name.toList == [98, 111, 114, 100, 101, 114, 45, 119, 105, 100, 116, 104]) = true) : (name.toList == [98, 111, 114, 100, 101, 114, 45, 99, 111, 108, 111, 114]) = false := by
  rw [beq_iff_eq] at h
  rw [h]
  rfl
theorem ne_WO {name : ByteArray} (h : (name.toList == [98, 111, 114, 100, 101, 114, 45, 119, 105, 100, 116, 104]) = true) : (name.toList == [111, 118, 101, 114, 102, 108, 111, 119]) = false := by
  rw [beq_iff_eq] at h
  rw [h]
  rfl
theorem ne_SM {name : ByteArray} (h : (name.toList == [98, 111, 114, 100, 101, 114, 45, 115, 116, 121, 108, 101]) = true) : (name.toList == [109, 97, 114, 103, 105, 110]) = false := by
  rw [beq_iff_eq] at h
  rw [h]
  rfl
theorem ne_SP {name : ByteArray} (h : (name.toList == [98, 111, 114, 100, 101, 114, 45, 115, 116, 121, 108, 101]) = true) : (name.toList == [112, 97, 100, 100, 105, 110, 103]) = false := by
  rw [beq_iff_eq] at h
  rw [h]
  rfl
theorem ne_SW {name : ByteArray} (h : (name.toList == [98, 111, 114, 100, 101, 114, 45, 115, 116, 121, 108, 101]) = true) : (name.toList == [98, 111, 114, 100, 101, 114, 45, 119, 105, 100, 116, 104]) = false := by
  rw [beq_iff_eq] at h
  rw [h]
  rfl
theorem ne_SC {name : ByteArray} (h : (name.toList == [98, 111, 114, 100, 101, 114, 45, 115, 116, 121, 108, 101]) = true) : (name.toList == [98, 111, 114, 100, 101, 114, 45, 99, 111, 108, 111, 114]) = false := by
  rw [beq_iff_eq] at h
  rw [h]
  rfl
theorem ne_SO {name : ByteArray} (h : (name.toList == [98, 111, 114, 100, 101, 114, 45, 115, 116, 121, 108, 101]) = true) : (name.toList == [111, 118, 101, 114, 102, 108, 111, 119]) = false := by
  rw [beq_iff_eq] at h
  rw [h]
  rfl
theorem ne_CM {name : ByteArray} (h : (name.toList == [98, 111, 114, 100, 101, 114, 45, 99, 111, 108, 111, 114]) = true) : (name.toList == [109, 97, 114, 103, 105, 110]) = false := by
  rw [beq_iff_eq] at h
  rw [h]
  rfl
theorem ne_CP {name : ByteArray} (h : (name.toList == [98, 111, 114, 100, 101, 114, 45, 99, 111, 108, 111, 114]) = true) : (name.toList == [112, 97, 100, 100, 105, 110, 103]) = false := by
  rw [beq_iff_eq] at h
  rw [h]
  rfl
theorem ne_CW {name : ByteArray} (h : (name.toList == [98, 111, 114, 100, 101, 114, 45, 99, 111, 108, 111, 114]) = true) : (name.toList == [98, 111, 114, 100, 101, 114, 45, 119, 105, 100, 116, 104]) = false := by
  rw [beq_iff_eq] at h
  rw [h]
  rfl
theorem ne_CS {name : ByteArray} (h : (name.toList == [98, 111, 114, 100, 101, 114, 45, 99, 111, 108, 111, 114]) = true) : (name.toList == [98, 111, 114, 100, 101, 114, 45, 115, 116, 121, 108, 101]) = false := by
  rw [beq_iff_eq] at h
  rw [h]
  rfl
theorem ne_CO {name : ByteArray} (h : (name.toList == [98, 111, 114, 100, 101, 114, 45, 99, 111, 108, 111, 114]) = true) : (name.toList == [111, 118, 101, 114, 102, 108, 111, 119]) = false := by
  rw [beq_iff_eq] at h
  rw [h]
  rfl
theorem ne_OM {name : ByteArray} (h : (name.toList == [111, 118, 101, 114, 102, 108, 111, 119]) = true) : (name.toList == [109, 97, 114, 103, 105, 110]) = false := by
  rw [beq_iff_eq] at h
  rw [h]
  rfl
theorem ne_OP {name : ByteArray} (h : (name.toList == [111, 118, 101, 114, 102, 108, 111, 119]) = true) : (name.toList == [112, 97, 100, 100, 105, 110, 103]) = false := by
  rw [beq_iff_eq] at h
  rw [h]
  rfl
theorem ne_OW {name : ByteArray} (h : (name.toList == [111, 118, 101, 114, 102, 108, 111, 119]) = true) : (name.toList == [98, 111, 114, 100, 101, 114, 45, 119, 105, 100, 116, 104]) = false := by
  rw [beq_iff_eq] at h
  rw [h]
  rfl
theorem ne_OS {name : ByteArray} (h : (name.toList == [111, 118, 101, 114, 102, 108, 111, 119]) = true) : (name.toList == [98, 111, 114, 100, 101, 114, 45, 115, 116, 121, 108, 101]) = false := by
  rw [beq_iff_eq] at h
  rw [h]
  rfl
theorem ne_OC {name : ByteArray} (h : (name.toList == [111, 118, 101, 114, 102, 108, 111, 119]) = true) : (name.toList == [98, 111, 114, 100, 101, 114, 45, 99, 111, 108, 111, 114]) = false := by
  rw [beq_iff_eq] at h
  rw [h]
  rfl
set_option maxHeartbeats 2000000 in
theorem longs_M {name : ByteArray} (h : (name.toList == [109, 97, 114, 103, 105, 110]) = true) (w : World) : Calls Try.prog 8 #[.string name] w fun e w' => (∃ a n c, e = .returned (.slice a n c) ∧ n = (lgs name).length ∧ StrAt w' (.slice a n c) (lgs name)) ∧ Below w.heap.size w w' := by
  rw [lgs_M h]
  have hs : name.size ≤ 20 := by rw [str_of h]; decide
  have hs2 : (name ++ ⟨#[45]⟩).size ≤ 30 := by rw [ByteArray.size_append]; show name.size + 1 ≤ 30; omega
  have hsd := sided_any (name ++ ⟨#[45]⟩) ⟨#[]⟩ w (by omega) (by decide)
  have he : sd (name ++ ⟨#[45]⟩) ⟨#[]⟩ = LM := by rw [str_of h]; kernel_rfl
  rw [he] at hsd
  clear he
  have hl : LM.length = 4 := rfl
  have HL := hid_mk hl
  clear hl
  generalize LM = D at *
  go_enter Try.func8, Try.ntmps8
  go_wp2_with (go_at_call 12; fail)
  refine hsd.mono ?_
  rintro e w2 ⟨⟨a, c, rfl, hS⟩, hb⟩
  clear hsd
  go_wp2
  go_ret
  exact ⟨⟨_, _, _, rfl, HL.out.symm, hS⟩, hb⟩
set_option maxHeartbeats 2000000 in
theorem longs_P {name : ByteArray} (h : (name.toList == [112, 97, 100, 100, 105, 110, 103]) = true) (w : World) : Calls Try.prog 8 #[.string name] w fun e w' => (∃ a n c, e = .returned (.slice a n c) ∧ n = (lgs name).length ∧ StrAt w' (.slice a n c) (lgs name)) ∧ Below w.heap.size w w' := by
  rw [lgs_P h]
  have fM := ne_PM h
  have hs : name.size ≤ 20 := by rw [str_of h]; decide
  have hs2 : (name ++ ⟨#[45]⟩).size ≤ 30 := by rw [ByteArray.size_append]; show name.size + 1 ≤ 30; omega
  have hsd := sided_any (name ++ ⟨#[45]⟩) ⟨#[]⟩ w (by omega) (by decide)
  have he : sd (name ++ ⟨#[45]⟩) ⟨#[]⟩ = LP := by rw [str_of h]; kernel_rfl
  rw [he] at hsd
  clear he
  have hl : LP.length = 4 := rfl
  have HL := hid_mk hl
  clear hl
  generalize LP = D at *
  go_enter Try.func8, Try.ntmps8
  go_wp2_with (go_at_call 12; fail)
  refine hsd.mono ?_
  rintro e w2 ⟨⟨a, c, rfl, hS⟩, hb⟩
  clear hsd
  go_wp2
  go_ret
  exact ⟨⟨_, _, _, rfl, HL.out.symm, hS⟩, hb⟩
set_option maxHeartbeats 2000000 in
theorem longs_W {name : ByteArray} (h : (name.toList == [98, 111, 114, 100, 101, 114, 45, 119, 105, 100, 116, 104]) = true) (w : World) : Calls Try.prog 8 #[.string name] w fun e w' => (∃ a n c, e = .returned (.slice a n c) ∧ n = (lgs name).length ∧ StrAt w' (.slice a n c) (lgs name)) ∧ Below w.heap.size w w' := by
  rw [lgs_W h]
  have fM := ne_WM h
  have fP := ne_WP h
  have htr := trim_any name ⟨#[98, 111, 114, 100, 101, 114]⟩ w
  have hts : (⟨(Lib.trimPrefix name.data.toList (ByteArray.mk #[98, 111, 114, 100, 101, 114]).data.toList).toArray⟩ : ByteArray) = ⟨#[45, 119, 105, 100, 116, 104]⟩ := by rw [str_of h]; kernel_rfl
  rw [hts] at htr
  have hsd := sided_any ⟨#[98, 111, 114, 100, 101, 114, 45]⟩ ⟨#[45, 119, 105, 100, 116, 104]⟩ w (by decide) (by decide)
  have he : sd ⟨#[98, 111, 114, 100, 101, 114, 45]⟩ ⟨#[45, 119, 105, 100, 116, 104]⟩ = LW := by kernel_rfl
  rw [he] at hsd
  clear he hts
  have hl : LW.length = 4 := rfl
  have HL := hid_mk hl
  clear hl
  generalize LW = D at *
  go_enter Try.func8, Try.ntmps8
  go_wp2_with (go_at_call 13; fail)
  refine htr.mono ?_
  rintro e w1 ⟨rfl, rfl⟩
  go_wp2_with (go_at_call 12; fail)
  refine hsd.mono ?_
  rintro e w2 ⟨⟨a, c, rfl, hS⟩, hb⟩
  clear hsd
  go_wp2
  go_ret
  exact ⟨⟨_, _, _, rfl, HL.out.symm, hS⟩, hb⟩
set_option maxHeartbeats 2000000 in
theorem longs_S {name : ByteArray} (h : (name.toList == [98, 111, 114, 100, 101, 114, 45, 115, 116, 121, 108, 101]) = true) (w : World) : Calls Try.prog 8 #[.string name] w fun e w' => (∃ a n c, e = .returned (.slice a n c) ∧ n = (lgs name).length ∧ StrAt w' (.slice a n c) (lgs name)) ∧ Below w.heap.size w w' := by
  rw [lgs_S h]
  have fM := ne_SM h
  have fP := ne_SP h
  have fW := ne_SW h
  have htr := trim_any name ⟨#[98, 111, 114, 100, 101, 114]⟩ w
  have hts : (⟨(Lib.trimPrefix name.data.toList (ByteArray.mk #[98, 111, 114, 100, 101, 114]).data.toList).toArray⟩ : ByteArray) = ⟨#[45, 115, 116, 121, 108, 101]⟩ := by rw [str_of h]; kernel_rfl
  rw [hts] at htr
  have hsd := sided_any ⟨#[98, 111, 114, 100, 101, 114, 45]⟩ ⟨#[45, 115, 116, 121, 108, 101]⟩ w (by decide) (by decide)
  have he : sd ⟨#[98, 111, 114, 100, 101, 114, 45]⟩ ⟨#[45, 115, 116, 121, 108, 101]⟩ = LS := by kernel_rfl
  rw [he] at hsd
  clear he hts
  have hl : LS.length = 4 := rfl
  have HL := hid_mk hl
  clear hl
  generalize LS = D at *
  go_enter Try.func8, Try.ntmps8
  go_wp2_with (go_at_call 13; fail)
  refine htr.mono ?_
  rintro e w1 ⟨rfl, rfl⟩
  go_wp2_with (go_at_call 12; fail)
  refine hsd.mono ?_
  rintro e w2 ⟨⟨a, c, rfl, hS⟩, hb⟩
  clear hsd
  go_wp2
  go_ret
  exact ⟨⟨_, _, _, rfl, HL.out.symm, hS⟩, hb⟩
set_option maxHeartbeats 2000000 in
theorem longs_C {name : ByteArray} (h : (name.toList == [98, 111, 114, 100, 101, 114, 45, 99, 111, 108, 111, 114]) = true) (w : World) : Calls Try.prog 8 #[.string name] w fun e w' => (∃ a n c, e = .returned (.slice a n c) ∧ n = (lgs name).length ∧ StrAt w' (.slice a n c) (lgs name)) ∧ Below w.heap.size w w' := by
  rw [lgs_C h]
  have fM := ne_CM h
  have fP := ne_CP h
  have fW := ne_CW h
  have fS := ne_CS h
  have htr := trim_any name ⟨#[98, 111, 114, 100, 101, 114]⟩ w
  have hts : (⟨(Lib.trimPrefix name.data.toList (ByteArray.mk #[98, 111, 114, 100, 101, 114]).data.toList).toArray⟩ : ByteArray) = ⟨#[45, 99, 111, 108, 111, 114]⟩ := by rw [str_of h]; kernel_rfl
  rw [hts] at htr
  have hsd := sided_any ⟨#[98, 111, 114, 100, 101, 114, 45]⟩ ⟨#[45, 99, 111, 108, 111, 114]⟩ w (by decide) (by decide)
  have he : sd ⟨#[98, 111, 114, 100, 101, 114, 45]⟩ ⟨#[45, 99, 111, 108, 111, 114]⟩ = LC := by kernel_rfl
  rw [he] at hsd
  clear he hts
  have hl : LC.length = 4 := rfl
  have HL := hid_mk hl
  clear hl
  generalize LC = D at *
  go_enter Try.func8, Try.ntmps8
  go_wp2_with (go_at_call 13; fail)
  refine htr.mono ?_
  rintro e w1 ⟨rfl, rfl⟩
  go_wp2_with (go_at_call 12; fail)
  refine hsd.mono ?_
  rintro e w2 ⟨⟨a, c, rfl, hS⟩, hb⟩
  clear hsd
  go_wp2
  go_ret
  exact ⟨⟨_, _, _, rfl, HL.out.symm, hS⟩, hb⟩
set_option maxHeartbeats 2000000 in
theorem longs_O {name : ByteArray} (h : (name.toList == [111, 118, 101, 114, 102, 108, 111, 119]) = true) (w : World) : Calls Try.prog 8 #[.string name] w fun e w' => (∃ a n c, e = .returned (.slice a n c) ∧ n = (lgs name).length ∧ StrAt w' (.slice a n c) (lgs name)) ∧ Below w.heap.size w w' := by
  rw [lgs_O h]
  have fM := ne_OM h
  have fP := ne_OP h
  have fW := ne_OW h
  have fS := ne_OS h
  have fC := ne_OC h
  have hS := StrAt.lit w LO (by decide)
  have hB : Below w.heap.size w (w.alloc (.cells (LO.map Value.string).toArray 9)) := (Below.refl _ w).alloc (Nat.le_refl _) _
  go_enter Try.func8, Try.ntmps8
  go_wp2
  go_ret
  exact ⟨⟨_, _, _, rfl, rfl, hS⟩, hB⟩
set_option maxHeartbeats 2000000 in
theorem longs_none {name : ByteArray} (hM : (name.toList == [109, 97, 114, 103, 105, 110]) = false) (hP : (name.toList == [112, 97, 100, 100, 105, 110, 103]) = false) (hW : (name.toList == [98, 111, 114, 100, 101, 114, 45, 119, 105, 100, 116, 104]) = false) (hS : (name.toList == [98, 111, 114, 100, 101, 114, 45, 115, 116, 121, 108, 101]) = false) (hC : (name.toList == [98, 111, 114, 100, 101, 114, 45, 99, 111, 108, 111, 114]) = false) (hO : (name.toList == [111, 118, 101, 114, 102, 108, 111, 119]) = false) (w : World) : Calls Try.prog 8 #[.string name] w fun e w' => (∃ a n c, e = .returned (.slice a n c) ∧ n = (lgs name).length ∧ StrAt w' (.slice a n c) (lgs name)) ∧ Below w.heap.size w w' := by
  rw [lgs_none hM hP hW hS hC hO]
  go_enter Try.func8, Try.ntmps8
  go_wp2
  go_ret
  exact ⟨⟨_, _, _, rfl, rfl, StrAt.nil _⟩, Below.refl _ _⟩
theorem longs_any (name : ByteArray) (w : World) : Calls Try.prog 8 #[.string name] w fun e w' => (∃ a n c, e = .returned (.slice a n c) ∧ n = (lgs name).length ∧ StrAt w' (.slice a n c) (lgs name)) ∧ Below w.heap.size w w' := by
  cases hM : (name.toList == [109, 97, 114, 103, 105, 110]) with
  | true => exact longs_M hM w
  | false =>
    cases hP : (name.toList == [112, 97, 100, 100, 105, 110, 103]) with
    | true => exact longs_P hP w
    | false =>
      cases hW : (name.toList == [98, 111, 114, 100, 101, 114, 45, 119, 105, 100, 116, 104]) with
      | true => exact longs_W hW w
      | false =>
        cases hS : (name.toList == [98, 111, 114, 100, 101, 114, 45, 115, 116, 121, 108, 101]) with
        | true => exact longs_S hS w
        | false =>
          cases hC : (name.toList == [98, 111, 114, 100, 101, 114, 45, 99, 111, 108, 111, 114]) with
          | true => exact longs_C hC w
          | false =>
            cases hO : (name.toList == [111, 118, 101, 114, 102, 108, 111, 119]) with
            | true => exact longs_O hO w
            | false =>
              exact longs_none hM hP hW hS hC hO w
end Go.Proofs.Ytaoodkpbhehdgaa
