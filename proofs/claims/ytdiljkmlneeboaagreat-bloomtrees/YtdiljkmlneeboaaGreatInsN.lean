/- dom.Doc's mayInsert and mayMove: the first thing that is wrong. dom.Doc's Insert. -/
import Derived.Test.YtdiljkmlneeboaaGreatUndN
import Derived.Test.YtdiljkmlneeboaaGreatNewN
namespace Go.Proofs.YtdiljkmlneeboaaGreat.N
open Go.RowKit
set_option maxRecDepth 100000

/-- The first thing that is wrong with an Insert. -/
def insErr (m : M) (p i : Int) (tag : ByteArray) : Int := match m p with
  | none => 1
  | some e => if i < 0 ∨ (e.ks.length : Int) < i then 3 else if nameZ tag = false then 7 else if 512 ≤ (ups m p).length then 5 else 0
theorem own_slice {w : World} {B n : Nat} {e : TypeId} {sz : Nat} {v : Value} {xs : List Value} (h : w.ownsRow B e sz v n xs) : ∃ a c, v = .slice a n c := by
  rcases h.2 with ⟨rfl, rfl⟩ | ⟨g, cap, cur, rfl, _⟩
  · exact ⟨_, _, rfl⟩
  · exact ⟨_, _, rfl⟩
theorem dom_next_cell {w : World} {dp : Value} {m : M} {nx : Int} (h : Dom w dp m nx) : ∃ b tp, dp = .pointer (some ⟨b, 0, none⟩) ∧ b < w.heap.size ∧ ∀ W, Below w.heap.size w W → W.cell? ⟨b, 0, none⟩ = some tp ∧ W.cell? ⟨b, 1, none⟩ = some (.int .i64 nx) ∧ TrM W tp m := by
  obtain ⟨b, tp, rfl, h1, h2⟩ := h
  have hb := (Array.getElem?_eq_some_iff.1 h1).1
  refine ⟨b, tp, rfl, hb, fun W hW => ⟨?_, ?_, h2.keep hW⟩⟩
  · have := (hW.block b hb).trans h1
    simp [World.cell?, this]
  · have := (hW.block b hb).trans h1
    simp [World.cell?, this]
set_option maxHeartbeats 2000000 in
theorem mayInsert_any {uok : List (ByteArray × ByteArray) → Prop} {w : World} {dp : Value} {m : M} {nx : Int} {d : Int → Nat} (h : Dom w dp m nx) (I : Inv uok m nx d) (p i : Int) (tag : ByteArray) (hs : tag.size ≤ maxLen) : Calls Tryz.prog 52 #[dp, .int .i64 p, .int .i64 i, .string tag] w fun x w' => x = .returned (.int .i64 (insErr m p i tag)) ∧ Below w.heap.size w w' := by
  cases hp : m p with
  | none =>
    have HR : Hid (insErr m p i tag = 1) := by show _ = _; simp [insErr, hp]
    have hf := dom_find_none h hp
    clear h I hp
    go_enter Tryz.func52, Tryz.ntmps52
    go_wp2_with (go_at_call 54; fail)
    refine hf.mono ?_
    rintro x w1 ⟨rfl, hB⟩
    have HB := hid_mk hB
    clear hf hB
    go_wp2
    go_ret
    exact ⟨by rw [HR.out]; rfl, HB.out.alloc HB.out.size _⟩
  | some e =>
    have hf := dom_find h hp
    have hkl := I.ksLen hp
    have hnx := I.nxb
    have HNM : Hid (∀ W, Calls Tryz.prog 48 #[.string tag] W fun e w' => e = .returned (.bool (nameZ tag)) ∧ Below W.heap.size W w') := fun W => name_any tag W hs
    have HUP : Hid (∀ W, Below w.heap.size w W → Calls Tryz.prog 86 #[dp, .int .i64 p] W fun x w' => ∃ v, x = .returned v ∧ w'.ownsRow W.heap.size 3 1 v (ups m p).length (intsV (ups m p)) ∧ Below W.heap.size W w') := fun W hW => up_any (h.keep hW) I p
    obtain ⟨b, tp, rfl, hb, hcell⟩ := dom_next_cell h
    have HCL := hid_mk hcell
    have hul : (ups m p).length ≤ 512 := by rw [ups_len I hp]; exact I.top hp
    have HR : Hid (insErr m p i tag = if i < 0 ∨ (e.ks.length : Int) < i then 3 else if nameZ tag = false then 7 else if 512 ≤ (ups m p).length then 5 else 0) := by show _ = _; simp only [insErr, hp]
    generalize insErr m p i tag = R at *
    generalize (ups m p).length = U at *
    clear h I hp hcell hs
    go_enter Tryz.func52, Tryz.ntmps52
    go_wp2_with (go_at_call 54; fail)
    refine hf.mono ?_
    rintro x w1 ⟨s, rfl, hE, hB1⟩
    have hkn := hE.kn
    have HB1 := hid_mk hB1
    have hA : Below w.heap.size w (w1.alloc (.cells #[.int .i64 s.id, .string s.tag, .int .i64 s.par, .slice s.ka s.kn s.kc, .slice s.aa s.an s.ac] 76)) := hB1.alloc hB1.size _
    have HA := hid_mk hA
    rw [← hkn] at hkl HR
    clear hf hB1 hE hkn hA
    by_cases h1 : i < 0
    · have HRR : Hid (R = 3) := by have := HR.out; rw [if_pos (.inl h1)] at this; exact this
      go_wp2
      go_ret
      exact ⟨by rw [HRR.out]; rfl, HA.out⟩
    · by_cases h2 : (s.kn : Int) < i
      · have HRR : Hid (R = 3) := by have := HR.out; rw [if_pos (.inr h2)] at this; exact this
        go_wp2
        go_ret
        exact ⟨by rw [HRR.out]; rfl, HA.out⟩
      · have HR2 : Hid (R = if nameZ tag = false then 7 else if 512 ≤ U then 5 else 0) := by have := HR.out; rw [if_neg (by omega)] at this; exact this
        generalize nameZ tag = nb at *
        go_wp2_with (go_at_call 48; fail)
        refine (HNM.out _).mono ?_
        rintro x w2 ⟨rfl, hB2⟩
        have HB2 : Hid (Below w.heap.size w w2) := HA.out.trans (hB2.mono HA.out.size)
        clear HNM hB2 HR
        cases nb with
        | false =>
          have HRR : Hid (R = 7) := by have := HR2.out; rw [if_pos rfl] at this; exact this
          go_wp2
          go_ret
          exact ⟨by rw [HRR.out]; rfl, HB2.out⟩
        | true =>
          have HR3 : Hid (R = if 512 ≤ U then 5 else 0) := by have := HR2.out; rw [if_neg (by decide)] at this; exact this
          clear HR2
          go_wp2_with (go_at_call 86; fail)
          refine (HUP.out _ HB2.out).mono ?_
          rintro x w3 ⟨v, rfl, hown, hB3⟩
          obtain ⟨a, c, rfl⟩ := own_slice hown
          have HB3 : Hid (Below w.heap.size w w3) := HB2.out.trans (hB3.mono HB2.out.size)
          obtain ⟨c0, c1, _⟩ := HCL.out w3 HB3.out
          clear hB3 hown HUP
          by_cases h5 : 512 ≤ U
          · have HRR : Hid (R = 5) := by have := HR3.out; rw [if_pos h5] at this; exact this
            go_wp2
            go_ret
            exact ⟨by rw [HRR.out]; rfl, HB3.out⟩
          · have HRR : Hid (R = 0) := by have := HR3.out; rw [if_neg h5] at this; exact this
            go_wp2
            go_ret
            exact ⟨by rw [HRR.out]; rfl, HB3.out⟩

end Go.Proofs.YtdiljkmlneeboaaGreat.N
namespace Go.Proofs.YtdiljkmlneeboaaGreat.N
open Go.RowKit
set_option maxRecDepth 100000

/-- The boxes of a change that begins an element. -/
def BegAt (W : World) (k : Nat) (id : Int) (tag : ByteArray) (p : Int) : Prop := (W.cell? ⟨k, 0, none⟩ = some (.int .i64 id) ∧ W.cell? ⟨k + 1, 0, none⟩ = some (.string tag) ∧ W.cell? ⟨k + 1 + 1, 0, none⟩ = some (.int .i64 p)) ∧ k + 1 + 1 < W.heap.size
/-- Of one by which it takes a kid. -/
def TakAt (W : World) (k : Nat) (kid i : Int) : Prop := (W.cell? ⟨k, 0, none⟩ = some (.int .i64 kid) ∧ W.cell? ⟨k + 1, 0, none⟩ = some (.int .i64 i)) ∧ k + 1 < W.heap.size
/-- Of one with one box. -/
def OneAt (W : World) (k : Nat) (x : Int) : Prop := W.cell? ⟨k, 0, none⟩ = some (.int .i64 x) ∧ k < W.heap.size
theorem BegAt.keep {W W' : World} {k : Nat} {id p : Int} {tag : ByteArray} (h : BegAt W k id tag p) (hb : Below W.heap.size W W') : BegAt W' k id tag p :=
  ⟨⟨(hb.cell (p := ⟨k, 0, none⟩) (by have := h.2; dsimp only; omega)).trans h.1.1, (hb.cell (p := ⟨k + 1, 0, none⟩) (by have := h.2; dsimp only; omega)).trans h.1.2.1, (hb.cell (p := ⟨k + 1 + 1, 0, none⟩) h.2).trans h.1.2.2⟩, Nat.lt_of_lt_of_le h.2 hb.size⟩
theorem TakAt.keep {W W' : World} {k : Nat} {kid i : Int} (h : TakAt W k kid i) (hb : Below W.heap.size W W') : TakAt W' k kid i :=
  ⟨⟨(hb.cell (p := ⟨k, 0, none⟩) (by have := h.2; dsimp only; omega)).trans h.1.1, (hb.cell (p := ⟨k + 1, 0, none⟩) h.2).trans h.1.2⟩, Nat.lt_of_lt_of_le h.2 hb.size⟩
theorem OneAt.keep {W W' : World} {k : Nat} {x : Int} (h : OneAt W k x) (hb : Below W.heap.size W W') : OneAt W' k x :=
  ⟨(hb.cell (p := ⟨k, 0, none⟩) h.2).trans h.1, Nat.lt_of_lt_of_le h.2 hb.size⟩
theorem begins_at {w W : World} (hW : Below w.heap.size w W) (id : Int) (tag : ByteArray) (p : Int) : Calls Tryz.prog 51 #[.int .i64 id, .string tag, .int .i64 p] W fun e w' => ∃ k, e = .returned (.agg #[.int .i64 id, .func (Fn.func 85) #[] #[.pointer (some ⟨k, 0, none⟩), .pointer (some ⟨k + 1, 0, none⟩), .pointer (some ⟨k + 1 + 1, 0, none⟩)]]) ∧ Hid (BegAt w' k id tag p) ∧ Below w.heap.size w w' := by
  refine (begins_any W id tag p).mono ?_
  rintro e w' ⟨rfl, h1, h2, hB⟩
  exact ⟨_, rfl, hid_mk ⟨h1, by omega⟩, hW.trans (hB.mono hW.size)⟩
theorem takes_at {w W : World} (hW : Below w.heap.size w W) (id kid i : Int) : Calls Tryz.prog 53 #[.int .i64 id, .int .i64 kid, .int .i64 i] W fun e w' => ∃ k, e = .returned (.agg #[.int .i64 id, .func (Fn.func 87) #[] #[.pointer (some ⟨k + 1, 0, none⟩), .pointer (some ⟨k, 0, none⟩)]]) ∧ Hid (TakAt w' k kid i) ∧ Hid (Below W.heap.size W w') ∧ Below w.heap.size w w' := by
  refine (takes_any W id kid i).mono ?_
  rintro e w' ⟨rfl, h1, h2, hB⟩
  exact ⟨_, rfl, hid_mk ⟨h1, by omega⟩, hid_mk hB, hW.trans (hB.mono hW.size)⟩
theorem ins_changed {w W3 W : World} {tp : Value} {m : M} {nx p : Int} {e : El} {tag : ByteArray} {k1 k2 i : Nat} (hT : TrM w tp m) (hw : Below w.heap.size w W3) (hW : Below W3.heap.size W3 W) (h1 : BegAt W3 k1 nx tag p) (h2 : TakAt W3 k2 nx i) (hp : m p = some e) (hpn : p ≠ nx) (hpr : 0 ≤ p ∧ p < 1048576) (hnr : 0 ≤ nx ∧ nx < 1048576) (hi : i ≤ e.ks.length) (hl : e.ks.length ≤ 300000)
    (hb : W.heap[W3.heap.size]? = some (.cells #[.int .i64 nx, .func (Fn.func 85) #[] #[.pointer (some ⟨k1, 0, none⟩), .pointer (some ⟨k1 + 1, 0, none⟩), .pointer (some ⟨k1 + 1 + 1, 0, none⟩)], .int .i64 p, .func (Fn.func 87) #[] #[.pointer (some ⟨k2 + 1, 0, none⟩), .pointer (some ⟨k2, 0, none⟩)]] 98 (0, 0))) :
    Calls Tryz.prog 49 #[tp, .slice (some ⟨W3.heap.size, 0, none⟩) 2 2] W fun x w' => ∃ b, x = .returned (.pointer (some ⟨b, 0, none⟩)) ∧ Hid (TrM w' (.pointer (some ⟨b, 0, none⟩)) (mset (mset m nx ⟨nx, tag, p, [], []⟩) p { e with ks := ins e.ks i nx })) ∧ Below w.heap.size w w' := by
  have h1' := h1.keep hW
  have h2' := h2.keep hW
  have hB := hw.trans (hW.mono hw.size)
  have hg : (mset m nx ⟨nx, tag, p, [], []⟩) p = some e := by rw [mset_ne hpn, hp]
  refine (changed_any (hT.keep hB) (chs_two hb) (.cons hnr e58 (Does.arr (does_begins h1'.1.1 h1'.1.2.1 h1'.1.2.2 (by have := h1'.2; omega) (by have := h1'.2; omega) h1'.2 _)) (.cons hpr e74 (Does.arr (by
      dsimp only
      rw [hg]
      exact does_takes h2'.1.2 h2'.1.1 h2'.2 (by have := h2'.2; omega) e hi hl)) (.nil _))) (by simp)).mono ?_
  rintro x w' ⟨b, rfl, hT', hB'⟩
  exact ⟨b, rfl, hid_mk hT', hB.trans (hB'.mono hB.size)⟩
set_option maxHeartbeats 2000000 in
theorem insert_err {uok : List (ByteArray × ByteArray) → Prop} {w : World} {dp : Value} {m : M} {nx : Int} {d : Int → Nat} (h : Dom w dp m nx) (I : Inv uok m nx d) (p i : Int) (tag : ByteArray) (hs : tag.size ≤ maxLen) (he : insErr m p i tag ≠ 0) : Calls Tryz.prog 24 #[dp, .int .i64 p, .int .i64 i, .string tag] w fun x w' => x = .returned (.tuple #[dp, .int .i64 0, .int .i64 (insErr m p i tag)]) ∧ Below w.heap.size w w' := by
  have hm := mayInsert_any h I p i tag hs
  obtain ⟨b, tp, rfl, _⟩ := h
  generalize insErr m p i tag = R at *
  have hne : (R != 0) = true := by simpa using he
  clear I hs
  go_enter Tryz.func24, Tryz.ntmps24
  go_wp2_with (go_at_call 52; fail)
  refine hm.mono ?_
  rintro x w1 ⟨rfl, hB⟩
  have HB := hid_mk hB
  clear hm hB
  go_wp2
  refine bodyPost_ret (v := .tuple #[.pointer (some ⟨b, 0, none⟩), .int .i64 0, .int .i64 R]) (by simp [results, Tryz.results24, go_sem]) rfl ⟨rfl, HB.out⟩
set_option maxHeartbeats 4000000 in
theorem insert_ok {uok : List (ByteArray × ByteArray) → Prop} {w : World} {dp : Value} {m : M} {nx : Int} {d : Int → Nat} (h : Dom w dp m nx) (I : Inv uok m nx d) (p : Int) (i : Nat) (tag : ByteArray) (hs : tag.size ≤ maxLen) {e : El} (hp : m p = some e) (he : insErr m p i tag = 0) : Calls Tryz.prog 24 #[dp, .int .i64 p, .int .i64 i, .string tag] w fun x w' => ∃ dp', x = .returned (.tuple #[dp', .int .i64 nx, .int .i64 0]) ∧ Dom w' dp' (mset (mset m nx ⟨nx, tag, p, [], []⟩) p { e with ks := ins e.ks i nx }) (nx + 1) ∧ Below w.heap.size w w' := by
  have hm := mayInsert_any h I p i tag hs
  rw [he] at hm
  have hil : i ≤ e.ks.length := by
    unfold insErr at he
    rw [hp] at he
    dsimp only at he
    split at he
    · cases he
    · omega
  have hnxb := I.nxb
  have hlo := I.lo hp
  have hkl := I.ksLen hp
  obtain ⟨b, tp, rfl, hb, hcell⟩ := dom_next_cell h
  have HCL := hid_mk hcell
  have HHP := hid_mk hp
  clear h I hs he hcell hp
  go_enter Tryz.func24, Tryz.ntmps24
  go_wp2_with (go_at_call 52; fail)
  refine hm.mono ?_
  rintro x w1 ⟨rfl, hB1⟩
  obtain ⟨c0, c1, hT⟩ := HCL.out w1 hB1
  have HF : Hid (∀ W, Below w1.heap.size w1 W → W.cell? ⟨b, 0, none⟩ = some tp) := fun W hW => (hW.cell (p := ⟨b, 0, none⟩) (Nat.lt_of_lt_of_le hb hB1.size)).trans c0
  have H30 : Hid (∀ W, Below w1.heap.size w1 W → _) := fun W hW => begins_at hW nx tag p
  have H51 : Hid (∀ W, Below w1.heap.size w1 W → _) := fun W hW => takes_at hW p nx i
  have H28 : Hid (∀ (W3 W : World) (k1 k2 : Nat), Below w1.heap.size w1 W3 → Below W3.heap.size W3 W → BegAt W3 k1 nx tag p → TakAt W3 k2 nx i → _ → _) := fun W3 W k1 k2 hw hW h1 h2 hb => ins_changed (k1 := k1) (k2 := k2) hT hw hW h1 h2 HHP.out (by omega) (by omega) (by omega) hil (by omega) hb
  have HB1 := hid_mk hB1
  have gd : Below w1.heap.size w1 w1.drew := (Below.refl _ w1).drew
  have g0 : Below w1.heap.size w1 w1 := Below.refl _ w1
  obtain ⟨bt, rfl⟩ := hT.ptr
  clear hm HCL hB1 hT
  have HAL : Hid (∀ (W3 : World) o, Below W3.heap.size W3 (W3.alloc o)) := fun W3 o => (Below.refl _ _).alloc (Nat.le_refl _) o
  have HLA : Hid (∀ (W3 : World) o, (W3.alloc o).heap[W3.heap.size]? = some o) := fun W3 o => heap_alloc_last W3 o
  go_wp2_with (fail)
  go_region_held3 (fun w' => w'.cell? ⟨b, 0, none⟩ = some (.pointer (some ⟨bt, 0, none⟩)))
    (first | with_reducible exact HF.out _ g0 | with_reducible exact HF.out _ gd | with_reducible exact HF.out _ g2 | with_reducible exact HF.out _ g3 | with_reducible exact HF.out _ g4 | exact HF.out _ (g3.trans ((HAL.out _ _).mono g3.size)) | exact HF.out _ (g4.trans ((HAL.out _ _).mono g4.size)))
    (first
    | (go_at_call 51; with_reducible refine (H30.out _ gd).mono ?_; rintro x w2 ⟨k1, rfl, HBG, g2⟩)
    | (go_at_call 53; with_reducible refine (H51.out _ g2).mono ?_; rintro x w3 ⟨k2, rfl, HTK, HB3, g3⟩)
    | (go_at_call 49; refine (H28.out w3 _ k1 k2 g3 (HAL.out _ _) (HBG.out.keep HB3.out) HTK.out (HLA.out _ _)).mono ?_; rintro x w4 ⟨b4, rfl, HT4, g4⟩))
  have HG4 : Hid (Below w.heap.size w w4) := HB1.out.trans (g4.mono HB1.out.size)
  clear g2 g3 g4 gd g0 HF H30 H51 H28 HBG HTK HB3 HB1
  go_wp2
  refine bodyPost_ret (v := .tuple #[.pointer (some ⟨w4.heap.size, 0, none⟩), .int .i64 nx, .int .i64 0]) (by simp [results, Tryz.results24, go_sem]) rfl ⟨_, rfl, by rw [show IntKind.i64.wrap (nx + 1) = nx + 1 by rw [IntKind.wrap_i64]; omega]; exact dom_box HT4.out, HG4.out.alloc HG4.out.size _⟩

end Go.Proofs.YtdiljkmlneeboaaGreat.N
