/- WalkOnce: the document's Has, the mathematics and the walk. -/
import Derived.Test.YtoncgmnccgegmaaGreatRcmN
import Derived.Test.YtoncgmnccgegmaaGreatLstN
import Derived.Test.YtoncgmnccgegmaaGreatWoW
import Derived.Deep.RegionHeld3
namespace Go.Proofs.YtoncgmnccgegmaaGreat.N
open Go.RowKit
set_option maxRecDepth 100000

theorem pre_len2 {uok : List (ByteArray × ByteArray) → Prop} {m : M} {nx : Int} {d : Int → Nat} (I : Inv uok m nx d) (id : Int) : (preO m id).length ≤ 100000 := by
  cases hm : m id with
  | none => rw [preO_none hm]; simp
  | some e => exact pre_len I hm
theorem calls_row {f : Nat} {args : Array Value} {w : World} {l : List Int} (h : Calls Tryz.prog f args w fun x w' => ∃ v, x = .returned v ∧ w'.ownsRow w.heap.size 3 1 v l.length (intsV l) ∧ Below w.heap.size w w') : Calls Tryz.prog f args w fun x w' => ∃ a n c, x = .returned (.slice a n c) ∧ Hid (RowAt w' 1 a n c (intsV l)) ∧ Below w.heap.size w w' :=
  h.mono fun x w' ⟨v, e, ho, hB⟩ => by
    obtain ⟨a, c, rfl, hr, _⟩ := RowAt.of_owns ho (by simp [intsV, Value.oneCell'])
    exact ⟨a, _, c, e, hr, hB⟩
theorem calls_row2 {f : Nat} {args : Array Value} {w : World} {l : List Int} (h : Calls Tryz.prog f args w fun x w' => ∃ v, x = .returned v ∧ w'.ownsRow w.heap.size 3 1 v l.length (intsV l) ∧ Below w.heap.size w w') : Calls Tryz.prog f args w fun x w' => ∃ a c, x = .returned (.slice a l.length c) ∧ Hid (RowAt w' 1 a l.length c (intsV l)) ∧ Below w.heap.size w w' :=
  h.mono fun x w' ⟨v, e, ho, hB⟩ => by
    obtain ⟨a, c, rfl, hr, _⟩ := RowAt.of_owns ho (by simp [intsV, Value.oneCell'])
    exact ⟨a, c, e, hr, hB⟩
set_option maxHeartbeats 1000000 in
theorem ints_none {w : World} {a : Option Addr} {n c : Nat} (hn : 0 < n) (hm : n ≤ 9223372036854775807) : Calls Tryz.prog 10 #[.slice a n c, .slice none 0 0] w fun e w' => e = .returned (.bool false) ∧ Below w.heap.size w w' := by
  have hne : ((n : Int) != 0) = true := bne_iff_ne.2 (by omega)
  have HB := hid_mk (Below.refl w.heap.size w)
  go_enter Tryz.func10, Tryz.ntmps10
  go_wp2
  go_ret
  exact ⟨rfl, HB.out⟩
theorem idx_in (ks : List Int) (x : Int) : 0 ≤ Lib.idxOf ks x ↔ x ∈ ks := by
  rw [Lib.idxOf_nonneg_iff]
  simp
set_option maxHeartbeats 1000000 in
theorem has_any {w : World} {a : Option Addr} {n c : Nat} {ks : List Int} (h : RowAt w 1 a n c (intsV ks)) (x : Int) : Calls Tryz.prog 27 #[.slice a n c, .int .i64 x] w fun e w' => e = .returned (.bool (decide (x ∈ ks))) ∧ Below w.heap.size w w' := by
  have h1 := rat_int h x
  have hmm := idx_in ks x
  have hl := h.1
  have hmx := h.2.2.1
  have hb := h.2.1
  have hll : (intsV ks).length = ks.length := by simp [intsV]
  by_cases hx : x ∈ ks
  · have e1 : decide (x ∈ ks) = true := decide_eq_true hx
    rw [e1]
    have hi := hmm.2 hx
    have hpos : 0 < n := by
      have := List.length_pos_of_mem hx
      omega
    generalize Lib.idxOf ks x = R at *
    have HR : Hid (n ≤ 9223372036854775807) := by unfold maxLen at hmx; exact Nat.le_trans hb hmx
    have h2 := fun w => ints_none (w := w) (a := a) (c := c) hpos HR.out
    have hd : decide (0 ≤ R) = true := decide_eq_true hi
    clear hmm hl hmx hb hll hx e1 hi h
    go_enter Tryz.func27, Tryz.ntmps27
    go_wp2_with (go_at_call 40; fail)
    refine h1.mono ?_
    rintro e w1 ⟨rfl, hB1⟩
    have HB1 := hid_mk hB1
    clear h1 hB1
    go_wp2_with (go_at_call 10; fail)
    refine (h2 w1).mono ?_
    rintro e w2 ⟨rfl, hB2⟩
    go_wp2
    go_ret
    exact ⟨rfl, HB1.out.trans (hB2.mono HB1.out.size)⟩
  · have e1 : decide (x ∈ ks) = false := decide_eq_false hx
    rw [e1]
    have hi : ¬ 0 ≤ Lib.idxOf ks x := fun k => hx (hmm.1 k)
    generalize Lib.idxOf ks x = R at *
    have hd : decide (0 ≤ R) = false := decide_eq_false hi
    clear hmm hl hmx hb hll hx e1 hi h
    go_enter Tryz.func27, Tryz.ntmps27
    go_wp2_with (go_at_call 40; fail)
    refine h1.mono ?_
    rintro e w1 ⟨rfl, hB1⟩
    have HB1 := hid_mk hB1
    clear h1 hB1
    go_wp2
    go_ret
    exact ⟨rfl, HB1.out⟩

section
variable {uok : List (ByteArray × ByteArray) → Prop} {m : M} {nx : Int} {d : Int → Nat}
/-- What the law asks of the element at a place of the order. -/
structure OncM (m : M) (top : Int) (P : List Int) (t : Nat) (x : Int) (e : El) : Prop where
  el : m x = some e
  no : x ∉ P.take t
  par : x ≠ 1 → e.par ∈ P.take t
  both : decide (x ∈ preO m top) = (x == top || decide (top ∈ ups m e.par))
theorem once_math (I : Inv uok m nx d) (top : Int) (t : Nat) (ht : t < (preO m 1).length) : ∃ e, OncM m top (preO m 1) t (preO m 1)[t] e := by
  obtain ⟨x, hx⟩ : ∃ x, x = (preO m 1)[t] := ⟨_, rfl⟩
  have hmem : x ∈ preO m 1 := by rw [hx]; exact List.getElem_mem ht
  obtain ⟨e, he⟩ : ∃ e, m x = some e := Option.ne_none_iff_exists'.1 ((pre_root I).1 hmem)
  obtain ⟨r, hr, _⟩ := I.root
  have hnd := pre_nodup I hr
  have hbef : ∀ y, y ∈ preO m 1 → cmpZ m y x = -1 → y ∈ (preO m 1).take t := fun y hy hc => by
    obtain ⟨j, hj, rfl⟩ := List.getElem_of_mem hy
    rw [hx, pre_cmp I hj ht] at hc
    have hjt : j < t := by
      unfold Lib.compareInt at hc
      split at hc
      · omega
      · split at hc <;> omega
    exact List.mem_take_iff_getElem.2 ⟨j, by omega, rfl⟩
  rw [← hx]
  refine ⟨e, he, fun hin => ?_, fun h1 => ?_, ?_⟩
  · obtain ⟨j, hj, e1⟩ := List.mem_take_iff_getElem.1 hin
    have hj2 : j < (preO m 1).length := by omega
    rw [hx] at e1
    have := (List.getElem_inj hnd).1 e1
    omega
  · obtain ⟨f, hf, _⟩ := I.par he h1
    have hu : e.par ∈ ups m e.par := ups_self I hf
    exact hbef _ ((pre_root I).2 (by rw [hf]; simp)) (cmpZ_up I he hu)
  · rw [Bool.eq_iff_iff]
    simp only [decide_eq_true_eq, Bool.or_eq_true, beq_iff_eq]
    cases hm : m top with
    | none =>
      rw [preO_none hm]
      constructor
      · intro h; cases h
      · rintro (rfl | h)
        · rw [he] at hm; cases hm
        · obtain ⟨g, hg⟩ := ups_mem I _ _ h
          rw [hg] at hm; cases hm
    | some g =>
      rw [pre_mem I hm, ups_head I he, List.mem_cons]
      constructor
      · rintro (h | h)
        · exact .inl h.symm
        · exact .inr h
      · rintro (h | h)
        · exact .inl h.symm
        · exact .inr h
end

set_option maxHeartbeats 8000000 in
theorem once_walk {W : World} {v : Value} {xs : List Act6} (hp : ActsIn W v xs) (top : Int) : Calls Tryz.prog 5 #[v, .int .i64 top] W fun e w' => e = .returned (.bool true) ∧ Below W.heap.size W w' := by
  have hlight := rlight_any hp 80 (by decide)
  have HLV : Hid (∀ w', Calls Tryz.prog 7 #[] w' fun e w'' => e = .returned (.bool true) ∧ Below w'.heap.size w' w'') := fun w' => wlives_any w'
  have HTA : Hid (∀ w', Below W.heap.size W w' → xs.length ≤ 130 → _) := fun w' hw' hx => tree_any (W := w') (v := v) (xs := xs) ⟨hp.1.keep hw', hp.2⟩ hx
  obtain ⟨⟨av, cap, rfl, hcap, hmax, hx⟩, hsz⟩ := hp
  clear hx hsz
  go_enter Tryz.func5, Tryz.ntmps5
  go_wp2_with (go_at_call 6; fail)
  refine hlight.mono ?_
  rintro e w1 ⟨lb, rfl, hlen, hB1⟩
  have HB1 := hid_mk hB1
  clear hlight hB1
  cases lb with
  | false =>
    clear HTA
    go_wp2_with (go_at_call 7; refine (HLV.out _).mono ?_; rintro e w2 ⟨rfl, hB2⟩)
    go_ret
    exact ⟨rfl, HB1.out.trans (hB2.mono HB1.out.size)⟩
  | true =>
    have h80 := hlen rfl
    have hta := HTA.out w1 HB1.out (by omega)
    clear HTA hlen
    go_wp2_with (go_at_call 8; fail)
    refine hta.mono ?_
    rintro e w2 ⟨p, q, m, nx, L, rfl, hR, _, hT, hRT, hB2⟩
    have HB2 := hid_mk (HB1.out.trans (hB2.mono HB1.out.size))
    have HT2 := hid_mk hT
    obtain ⟨d, I⟩ := hT.2
    have hp1 := pre_len2 I 1
    have hpi := pre_len2 I top
    have HCN := hid_mk (pre_cnt I)
    have h12 := calls_row2 (order_any HT2.out HCN.out hp1 hp1)
    have HPI := hid_mk hpi
    have HMT : Hid (mostL (preO m top) (-1) = preO m top) := by rw [Hid]; unfold mostL; rw [if_neg (by omega)]
    have HON : Hid (∀ (t : Nat) (ht : t < (preO m 1).length), ∃ e, OncM m top (preO m 1) t (preO m 1)[t] e) := fun t ht => once_math I top t ht
    clear hta hR hT hRT hB2 HB1 I hpi
    obtain ⟨P, hP⟩ : ∃ P, P = preO m 1 := ⟨_, rfl⟩
    rw [← hP] at h12 HON HCN hp1
    clear hP
    go_wp2_with (go_at_call 12; fail)
    refine h12.mono ?_
    rintro e w3 ⟨la, lc, rfl, HL, hB3⟩
    have HB3 := hid_mk (HB2.out.trans (hB3.mono HB2.out.size))
    have HT3 := hid_mk (HT2.out.keep hB3)
    have h25 := dom_len HT3.out.1 HCN.out
    have hcapL := HL.out.2.1
    clear h12 hB3 HB2 HT2
    go_wp2_with (go_at_call 25; fail)
    refine h25.mono ?_
    rintro e w4 ⟨rfl, rfl⟩
    have h11 := calls_row (list_any HT3.out top (-1) HPI.out)
    rw [HMT.out] at h11
    clear h25 HPI HMT
    go_wp2_with (go_at_call 11; fail)
    refine h11.mono ?_
    rintro e w5 ⟨ia, jn, ic, rfl, HI5, hB5⟩
    have HB5 := hid_mk (HB3.out.trans (hB5.mono HB3.out.size))
    have HT5 := hid_mk (HT3.out.keep hB5)
    have HL5 := hid_mk (HL.out.keep hB5)
    have HLC : Hid (∀ w', Below w5.heap.size w5 w' → ∀ t (ht : t < P.length), ∃ ab ao, la = some ⟨ab, ao, none⟩ ∧ w'.cell? ⟨ab, ao + t, none⟩ = some (.int .i64 P[t])) := fun w' hw' t ht => by
      obtain ⟨ab, ao, e1, l1, g1⟩ := HL5.out.intAt ht
      exact ⟨ab, ao, e1, (hw'.cell (p := ⟨ab, ao + t, none⟩) l1).trans g1⟩
    have HND : Hid (∀ w', Below w5.heap.size w5 w' → ∀ x e, m x = some e → _) := fun w' hw' x e he => tree_node_new (HT5.out.keep hw') (n := x) (e := e) he
    have HUP : Hid (∀ w', Below w5.heap.size w5 w' → ∀ x, _) := fun w' hw' x => calls_row (wup_any (HT5.out.keep hw') x)
    have HHI : Hid (∀ w', Below w5.heap.size w5 w' → ∀ x, Calls Tryz.prog 27 #[.slice ia jn ic, .int .i64 x] w' fun e w'' => e = .returned (.bool (decide (x ∈ preO m top))) ∧ Below w'.heap.size w' w'') := fun w' hw' x => has_any (HI5.out.keep hw') x
    have HHT : Hid (∀ w', Below w5.heap.size w5 w' → ∀ t, t ≤ P.length → ∀ x, Calls Tryz.prog 27 #[.slice la t lc, .int .i64 x] w' fun e w'' => e = .returned (.bool (decide (x ∈ P.take t))) ∧ Below w'.heap.size w' w'') := fun w' hw' t ht x => by
      have h1 := (HL5.out.keep hw').take t ht
      have h3 : intsV (P.take t) = (intsV P).take (t * 1) := by simp [intsV, List.map_take]
      rw [← h3] at h1
      exact has_any h1 x
    clear h11 hB5 HB3 HT3 HL HI5 HL5 HT5 HCN
    go_wp2
    go_loopw [34] (fun a34 wq => ∃ t : Nat, t ≤ P.length ∧ a34 = .int .i64 (t : Int) ∧ Hid (Below w5.heap.size w5 wq)) (fun a34 _ => P.length + 1 - (intOf a34).toNat)
    case atStart => exact ⟨0, Nat.zero_le _, rfl, hid_mk (Below.refl _ _)⟩
    case round =>
      obtain ⟨t, ht, rfl, HBr⟩ := hrel
      by_cases htl : t < P.length
      · obtain ⟨el, hon⟩ := HON.out t htl
        obtain ⟨ab, ao, rfl, q1⟩ := HLC.out wr HBr.out t htl
        obtain ⟨x, hx⟩ : ∃ x, x = P[t] := ⟨_, rfl⟩
        rw [← hx] at hon q1
        have hnd := HND.out wr HBr.out x el hon.el
        have HM := hid_mk hon
        clear hon hx HLC HND HON
        go_wp2_with (go_at_call 26; fail)
        refine hnd.mono ?_
        rintro e w6 ⟨s, rfl, hs, _, hB6⟩
        have HB6 := hid_mk (HBr.out.trans (hB6.mono HBr.out.size))
        have HSP : Hid (s.par = el.par) := hs.2.2.1
        clear hnd hB6 hs
        obtain ⟨w7, hw7⟩ : ∃ w7, w7 = w6.alloc (.cells #[.int .i64 s.id, .string s.tag, .int .i64 s.par, .slice s.ka s.kn s.kc, .slice s.aa s.an s.ac] 47) := ⟨_, rfl⟩
        have HB7 : Hid (Below w5.heap.size w5 w7) := by rw [Hid, hw7]; exact HB6.out.alloc HB6.out.size _
        have HF : Hid (∀ w', Below w7.heap.size w7 w' → w'.cell? ⟨w6.heap.size, 2, none⟩ = some (.int .i64 s.par)) := fun w' hw' => by
          have hb : w7.heap[w6.heap.size]? = some (.cells #[.int .i64 s.id, .string s.tag, .int .i64 s.par, .slice s.ka s.kn s.kc, .slice s.aa s.an s.ac] 47 (0, 0)) := by rw [hw7]; exact heap_alloc_last w6 _
          have h7 := (hw'.block _ (Array.getElem?_eq_some_iff.1 hb).1).trans hb
          simp [World.cell?, h7]
        have gd : Below w7.heap.size w7 w7.drew := (Below.refl _ _).drew
        have HH1 : Hid (∀ w', Below w7.heap.size w7 w' → Calls Tryz.prog 27 #[.slice (some ⟨ab, ao, none⟩) t lc, .int .i64 x] w' fun e w'' => e = .returned (.bool false) ∧ Below w7.heap.size w7 w'') := fun w' hw' =>
          (HHT.out w' (HB7.out.trans (hw'.mono HB7.out.size)) t ht x).mono fun e w'' h => ⟨by rw [h.1, decide_eq_false HM.out.no], hw'.trans (h.2.mono hw'.size)⟩
        have HH2 : Hid (x ≠ 1 → ∀ w', Below w7.heap.size w7 w' → Calls Tryz.prog 27 #[.slice (some ⟨ab, ao, none⟩) t lc, .int .i64 s.par] w' fun e w'' => e = .returned (.bool true) ∧ Below w7.heap.size w7 w'') := fun hx1 w' hw' =>
          (HHT.out w' (HB7.out.trans (hw'.mono HB7.out.size)) t ht s.par).mono fun e w'' h => ⟨by rw [h.1, HSP.out, decide_eq_true (HM.out.par hx1)], hw'.trans (h.2.mono hw'.size)⟩
        have HFIN : Hid (∀ wz, Below w7.heap.size w7 wz → Below w5.heap.size w5 wz) := fun wz hz => HB7.out.trans (hz.mono HB7.out.size)
        have hpar : parOf m x = el.par := by unfold parOf; rw [HM.out.el]; rfl
        have hbo := HM.out.both
        have HW7 := hid_mk hw7
        have hcapL2 : t ≤ lc := Nat.le_trans ht hcapL
        clear hw7 HHT HB6 HB7 HSP hcapL
        go_upto_region 12 with (fail)
        rw [← HW7.out]
        clear HW7
        go_cut [66] (fun s66 wx => s66 = .bool false ∧ Hid (Below w7.heap.size w7 wx))
        case first =>
          by_cases hx1 : x = 1
          · have hne : (x != 1) = false := by simp [hx1]
            clear HH2 hx1 hbo hpar HUP HHI
            refine wp_region_held_drew (S := fun w' => w'.cell? ⟨w6.heap.size, 2, none⟩ = some (.int .i64 s.par)) (by kernel_rfl) (HF.out _ gd) (fun hHeld => ?_)
            refine wpAnyH_take (i := 0) (oi := { dst := some 45, op := Op.move (Operand.tmp 12), type := 4, pos := "law.go:92", after := #[], guard := none }) (v := ?_) rfl (by kernel_rfl) (by kernel_rfl) (by kernel_rfl) (fun _ _ _ h => h) (Or.inl ⟨by rfl, ?_⟩) (by assumption) ?_
            rotate_left
            · intro w hSw
              try dsimp only at hSw
              go_simp
              try with_reducible rfl
            try simp only [Act.put, List.setIfInBounds_toArray, List.set_cons_zero, List.set_cons_succ]
            refine wpAnyH_take (i := 1) (oi := { dst := some 46, op := Op.unOp UnOp.not 4 (Operand.tmp 45), type := 4, pos := "law.go:92", after := #[{ on := 0, ground := Ground.data }], guard := none }) (v := ?_) rfl (by kernel_rfl) (by kernel_rfl) (by kernel_rfl) (fun _ _ _ h => h) (Or.inl ⟨by rfl, ?_⟩) (by assumption) ?_
            rotate_left
            · intro w hSw
              try dsimp only at hSw
              go_simp
              try with_reducible rfl
            try simp only [Act.put, List.setIfInBounds_toArray, List.set_cons_zero, List.set_cons_succ]
            refine wpAnyH_take (i := 2) (oi := { dst := some 47, op := Op.move (Operand.tmp 46), type := 4, pos := "law.go:92", after := #[{ on := 1, ground := Ground.data }], guard := none }) (v := ?_) rfl (by kernel_rfl) (by kernel_rfl) (by kernel_rfl) (fun _ _ _ h => h) (Or.inl ⟨by rfl, ?_⟩) (by assumption) ?_
            rotate_left
            · intro w hSw
              try dsimp only at hSw
              go_simp
              try with_reducible rfl
            try simp only [Act.put, List.setIfInBounds_toArray, List.set_cons_zero, List.set_cons_succ]
            refine wpAnyH_take (i := 3) (oi := { dst := some 48, op := Op.move (Operand.tmp 7), type := 29, pos := "law.go:92", after := #[{ on := 2, ground := Ground.guard }], guard := some (2, false) }) (v := ?_) rfl (by kernel_rfl) (by kernel_rfl) (by kernel_rfl) (fun _ _ _ h => h) (Or.inl ⟨by rfl, ?_⟩) (by assumption) ?_
            rotate_left
            · intro w hSw
              try dsimp only at hSw
              go_simp
              try with_reducible rfl
            try simp only [Act.put, List.setIfInBounds_toArray, List.set_cons_zero, List.set_cons_succ]
            refine wpAnyH_take (i := 4) (oi := { dst := some 49, op := Op.move (Operand.tmp 9), type := 3, pos := "law.go:92", after := #[{ on := 2, ground := Ground.guard }], guard := some (2, false) }) (v := ?_) rfl (by kernel_rfl) (by kernel_rfl) (by kernel_rfl) (fun _ _ _ h => h) (Or.inl ⟨by rfl, ?_⟩) (by assumption) ?_
            rotate_left
            · intro w hSw
              try dsimp only at hSw
              go_simp
              try with_reducible rfl
            try simp only [Act.put, List.setIfInBounds_toArray, List.set_cons_zero, List.set_cons_succ]
            refine wpAnyH_take (i := 5) (oi := { dst := some 50, op := Op.slice 29 (Operand.tmp 48) none (some (Operand.tmp 49)) none, type := 29, pos := "law.go:92", after := #[{ on := 3, ground := Ground.data }, { on := 4, ground := Ground.data }, { on := 2, ground := Ground.guard }], guard := some (2, false) }) (v := ?_) rfl (by kernel_rfl) (by kernel_rfl) (by kernel_rfl) (fun _ _ _ h => h) (Or.inl ⟨by rfl, ?_⟩) (by assumption) ?_
            rotate_left
            · intro w hSw
              try dsimp only at hSw
              go_simp
              try with_reducible rfl
            try simp only [Act.put, List.setIfInBounds_toArray, List.set_cons_zero, List.set_cons_succ]
            refine wpAnyH_take (i := 6) (oi := { dst := some 51, op := Op.move (Operand.tmp 10), type := 3, pos := "law.go:92", after := #[{ on := 2, ground := Ground.guard }], guard := some (2, false) }) (v := ?_) rfl (by kernel_rfl) (by kernel_rfl) (by kernel_rfl) (fun _ _ _ h => h) (Or.inl ⟨by rfl, ?_⟩) (by assumption) ?_
            rotate_left
            · intro w hSw
              try dsimp only at hSw
              go_simp
              try with_reducible rfl
            try simp only [Act.put, List.setIfInBounds_toArray, List.set_cons_zero, List.set_cons_succ]
            refine wpAnyH_ready (rs := [7]) (by kernel_rfl) (by simp) ?_
            refine AllReadyH.cons (o := { dst := some 52, op := Op.call { callee := Callee.value (Operand.func 27), args := #[Operand.tmp 50, Operand.tmp 51], argTypes := #[29, 3] }, type := 4, pos := "law.go:92", after := #[{ on := 5, ground := Ground.data }, { on := 6, ground := Ground.data }, { on := 2, ground := Ground.chain }, { on := 2, ground := Ground.guard }], guard := some (2, false) }) rfl (fun K hK => ?_) AllReadyH.nil
            go_simp
            go_at_call 27
            refine (HH1.out _ gd).mono ?_
            rintro e wa ⟨rfl, ga⟩
            refine hK.out _ _ (HF.out _ ga) (fun hHeld => ?_)
            clear hK K
            try simp only [Act.put, List.setIfInBounds_toArray, List.set_cons_zero, List.set_cons_succ]
            refine wpAnyH_take (i := 8) (oi := { dst := some 53, op := Op.pick (Operand.tmp 47) (Operand.const (Value.bool true)) (Operand.tmp 52), type := 4, pos := "law.go:92", after := #[{ on := 2, ground := Ground.data }, { on := 7, ground := Ground.data }], guard := none }) (v := ?_) rfl (by kernel_rfl) (by kernel_rfl) (by kernel_rfl) (fun _ _ _ h => h) (Or.inl ⟨by rfl, ?_⟩) (by assumption) ?_
            rotate_left
            · intro w hSw
              try dsimp only at hSw
              go_simp
              try with_reducible rfl
            try simp only [Act.put, List.setIfInBounds_toArray, List.set_cons_zero, List.set_cons_succ]
            refine wpAnyH_take (i := 9) (oi := { dst := some 54, op := Op.move (Operand.tmp 53), type := 4, pos := "law.go:92", after := #[{ on := 8, ground := Ground.data }, { on := 7, ground := Ground.chain }], guard := none }) (v := ?_) rfl (by kernel_rfl) (by kernel_rfl) (by kernel_rfl) (fun _ _ _ h => h) (Or.inl ⟨by rfl, ?_⟩) (by assumption) ?_
            rotate_left
            · intro w hSw
              try dsimp only at hSw
              go_simp
              try with_reducible rfl
            try simp only [Act.put, List.setIfInBounds_toArray, List.set_cons_zero, List.set_cons_succ]
            refine wpAnyH_take (i := 10) (oi := { dst := some 55, op := Op.move (Operand.tmp 10), type := 3, pos := "law.go:92", after := #[{ on := 9, ground := Ground.guard }], guard := some (9, false) }) (v := ?_) rfl (by kernel_rfl) (by kernel_rfl) (by kernel_rfl) (fun _ _ _ h => h) (Or.inl ⟨by rfl, ?_⟩) (by assumption) ?_
            rotate_left
            · intro w hSw
              try dsimp only at hSw
              go_simp
              try with_reducible rfl
            try simp only [Act.put, List.setIfInBounds_toArray, List.set_cons_zero, List.set_cons_succ]
            refine wpAnyH_take (i := 11) (oi := { dst := some 56, op := Op.binOp BinOp.neq 3 (Operand.tmp 55) (Operand.const (Value.int IntKind.i64 1)) 3, type := 4, pos := "law.go:92", after := #[{ on := 10, ground := Ground.data }, { on := 9, ground := Ground.guard }], guard := some (9, false) }) (v := ?_) rfl (by kernel_rfl) (by kernel_rfl) (by kernel_rfl) (fun _ _ _ h => h) (Or.inl ⟨by rfl, ?_⟩) (by assumption) ?_
            rotate_left
            · intro w hSw
              try dsimp only at hSw
              go_simp
              try with_reducible rfl
            try simp only [Act.put, List.setIfInBounds_toArray, List.set_cons_zero, List.set_cons_succ]
            refine wpAnyH_take (i := 12) (oi := { dst := some 57, op := Op.move (Operand.tmp 56), type := 4, pos := "law.go:92", after := #[{ on := 11, ground := Ground.data }, { on := 9, ground := Ground.chain }, { on := 9, ground := Ground.guard }], guard := some (9, false) }) (v := ?_) rfl (by kernel_rfl) (by kernel_rfl) (by kernel_rfl) (fun _ _ _ h => h) (Or.inl ⟨by rfl, ?_⟩) (by assumption) ?_
            rotate_left
            · intro w hSw
              try dsimp only at hSw
              go_simp
              try with_reducible rfl
            try simp only [Act.put, List.setIfInBounds_toArray, List.set_cons_zero, List.set_cons_succ]
            refine wpAnyH_take (i := 13) (oi := { dst := some 58, op := Op.move (Operand.tmp 7), type := 29, pos := "law.go:92", after := #[{ on := 12, ground := Ground.guard }], guard := some (12, true) }) (v := undef) rfl (by kernel_rfl) (by kernel_rfl) (by kernel_rfl) (fun _ _ _ h => h) (Or.inr ⟨by rfl, rfl⟩) (by assumption) ?_
            try simp only [Act.put, List.setIfInBounds_toArray, List.set_cons_zero, List.set_cons_succ]
            refine wpAnyH_take (i := 14) (oi := { dst := some 59, op := Op.move (Operand.tmp 9), type := 3, pos := "law.go:92", after := #[{ on := 12, ground := Ground.guard }], guard := some (12, true) }) (v := undef) rfl (by kernel_rfl) (by kernel_rfl) (by kernel_rfl) (fun _ _ _ h => h) (Or.inr ⟨by rfl, rfl⟩) (by assumption) ?_
            try simp only [Act.put, List.setIfInBounds_toArray, List.set_cons_zero, List.set_cons_succ]
            refine wpAnyH_take (i := 15) (oi := { dst := some 60, op := Op.slice 29 (Operand.tmp 58) none (some (Operand.tmp 59)) none, type := 29, pos := "law.go:92", after := #[{ on := 13, ground := Ground.data }, { on := 14, ground := Ground.data }, { on := 12, ground := Ground.guard }], guard := some (12, true) }) (v := undef) rfl (by kernel_rfl) (by kernel_rfl) (by kernel_rfl) (fun _ _ _ h => h) (Or.inr ⟨by rfl, rfl⟩) (by assumption) ?_
            try simp only [Act.put, List.setIfInBounds_toArray, List.set_cons_zero, List.set_cons_succ]
            refine wpAnyH_take (i := 16) (oi := { dst := some 61, op := Op.fieldAddr 47 (Operand.tmp 11) 2, type := 0, pos := "law.go:92", after := #[{ on := 12, ground := Ground.guard }], guard := some (12, true) }) (v := undef) rfl (by kernel_rfl) (by kernel_rfl) (by kernel_rfl) (fun _ _ _ h => h) (Or.inr ⟨by rfl, rfl⟩) (by assumption) ?_
            try simp only [Act.put, List.setIfInBounds_toArray, List.set_cons_zero, List.set_cons_succ]
            refine wpAnyH_take (i := 17) (oi := { dst := some 62, op := Op.load 3 (Operand.tmp 61), type := 3, pos := "law.go:92", after := #[{ on := 16, ground := Ground.data }, { on := 12, ground := Ground.guard }], guard := some (12, true) }) (v := undef) rfl (by kernel_rfl) (by kernel_rfl) (by kernel_rfl) (fun _ _ _ h => h) (Or.inr ⟨by rfl, rfl⟩) (by assumption) ?_
            try simp only [Act.put, List.setIfInBounds_toArray, List.set_cons_zero, List.set_cons_succ]
            refine wpAnyH_take (i := 18) (oi := { dst := some 63, op := Op.call { callee := Callee.value (Operand.func 27), args := #[Operand.tmp 60, Operand.tmp 62], argTypes := #[29, 3] }, type := 4, pos := "law.go:92", after := #[{ on := 15, ground := Ground.data }, { on := 17, ground := Ground.data }, { on := 12, ground := Ground.chain }, { on := 12, ground := Ground.guard }], guard := some (12, true) }) (v := undef) rfl (by kernel_rfl) (by kernel_rfl) (by kernel_rfl) (fun _ _ _ h => h) (Or.inr ⟨by rfl, rfl⟩) (by assumption) ?_
            try simp only [Act.put, List.setIfInBounds_toArray, List.set_cons_zero, List.set_cons_succ]
            refine wpAnyH_take (i := 19) (oi := { dst := some 64, op := Op.unOp UnOp.not 4 (Operand.tmp 63), type := 4, pos := "law.go:92", after := #[{ on := 18, ground := Ground.data }, { on := 12, ground := Ground.guard }], guard := some (12, true) }) (v := undef) rfl (by kernel_rfl) (by kernel_rfl) (by kernel_rfl) (fun _ _ _ h => h) (Or.inr ⟨by rfl, rfl⟩) (by assumption) ?_
            try simp only [Act.put, List.setIfInBounds_toArray, List.set_cons_zero, List.set_cons_succ]
            refine wpAnyH_take (i := 20) (oi := { dst := some 65, op := Op.pick (Operand.tmp 57) (Operand.tmp 64) (Operand.const (Value.bool false)), type := 4, pos := "law.go:92", after := #[{ on := 12, ground := Ground.data }, { on := 19, ground := Ground.data }, { on := 9, ground := Ground.guard }], guard := some (9, false) }) (v := ?_) rfl (by kernel_rfl) (by kernel_rfl) (by kernel_rfl) (fun _ _ _ h => h) (Or.inl ⟨by rfl, ?_⟩) (by assumption) ?_
            rotate_left
            · intro w hSw
              try dsimp only at hSw
              go_simp
              try with_reducible rfl
            try simp only [Act.put, List.setIfInBounds_toArray, List.set_cons_zero, List.set_cons_succ]
            refine wpAnyH_take (i := 21) (oi := { dst := some 66, op := Op.pick (Operand.tmp 54) (Operand.const (Value.bool true)) (Operand.tmp 65), type := 4, pos := "law.go:92", after := #[{ on := 9, ground := Ground.data }, { on := 20, ground := Ground.data }], guard := none }) (v := ?_) rfl (by kernel_rfl) (by kernel_rfl) (by kernel_rfl) (fun _ _ _ h => h) (Or.inl ⟨by rfl, ?_⟩) (by assumption) ?_
            rotate_left
            · intro w hSw
              try dsimp only at hSw
              go_simp
              try with_reducible rfl
            try simp only [Act.put, List.setIfInBounds_toArray, List.set_cons_zero, List.set_cons_succ]
            refine wpAnyH_done (by kernel_rfl) ?_ _
            go_wp2_with fail
            go_meet
            exact ⟨rfl, ga⟩
          · have hne : (x != 1) = true := by simp [hx1]
            have HH2' := hid_mk (HH2.out hx1)
            clear HH2 hx1 hbo hpar HUP HHI
            refine wp_region_held_drew (S := fun w' => w'.cell? ⟨w6.heap.size, 2, none⟩ = some (.int .i64 s.par)) (by kernel_rfl) (HF.out _ gd) (fun hHeld => ?_)
            refine wpAnyH_take (i := 0) (oi := { dst := some 45, op := Op.move (Operand.tmp 12), type := 4, pos := "law.go:92", after := #[], guard := none }) (v := ?_) rfl (by kernel_rfl) (by kernel_rfl) (by kernel_rfl) (fun _ _ _ h => h) (Or.inl ⟨by rfl, ?_⟩) (by assumption) ?_
            rotate_left
            · intro w hSw
              try dsimp only at hSw
              go_simp
              try with_reducible rfl
            try simp only [Act.put, List.setIfInBounds_toArray, List.set_cons_zero, List.set_cons_succ]
            refine wpAnyH_take (i := 1) (oi := { dst := some 46, op := Op.unOp UnOp.not 4 (Operand.tmp 45), type := 4, pos := "law.go:92", after := #[{ on := 0, ground := Ground.data }], guard := none }) (v := ?_) rfl (by kernel_rfl) (by kernel_rfl) (by kernel_rfl) (fun _ _ _ h => h) (Or.inl ⟨by rfl, ?_⟩) (by assumption) ?_
            rotate_left
            · intro w hSw
              try dsimp only at hSw
              go_simp
              try with_reducible rfl
            try simp only [Act.put, List.setIfInBounds_toArray, List.set_cons_zero, List.set_cons_succ]
            refine wpAnyH_take (i := 2) (oi := { dst := some 47, op := Op.move (Operand.tmp 46), type := 4, pos := "law.go:92", after := #[{ on := 1, ground := Ground.data }], guard := none }) (v := ?_) rfl (by kernel_rfl) (by kernel_rfl) (by kernel_rfl) (fun _ _ _ h => h) (Or.inl ⟨by rfl, ?_⟩) (by assumption) ?_
            rotate_left
            · intro w hSw
              try dsimp only at hSw
              go_simp
              try with_reducible rfl
            try simp only [Act.put, List.setIfInBounds_toArray, List.set_cons_zero, List.set_cons_succ]
            refine wpAnyH_take (i := 3) (oi := { dst := some 48, op := Op.move (Operand.tmp 7), type := 29, pos := "law.go:92", after := #[{ on := 2, ground := Ground.guard }], guard := some (2, false) }) (v := ?_) rfl (by kernel_rfl) (by kernel_rfl) (by kernel_rfl) (fun _ _ _ h => h) (Or.inl ⟨by rfl, ?_⟩) (by assumption) ?_
            rotate_left
            · intro w hSw
              try dsimp only at hSw
              go_simp
              try with_reducible rfl
            try simp only [Act.put, List.setIfInBounds_toArray, List.set_cons_zero, List.set_cons_succ]
            refine wpAnyH_take (i := 4) (oi := { dst := some 49, op := Op.move (Operand.tmp 9), type := 3, pos := "law.go:92", after := #[{ on := 2, ground := Ground.guard }], guard := some (2, false) }) (v := ?_) rfl (by kernel_rfl) (by kernel_rfl) (by kernel_rfl) (fun _ _ _ h => h) (Or.inl ⟨by rfl, ?_⟩) (by assumption) ?_
            rotate_left
            · intro w hSw
              try dsimp only at hSw
              go_simp
              try with_reducible rfl
            try simp only [Act.put, List.setIfInBounds_toArray, List.set_cons_zero, List.set_cons_succ]
            refine wpAnyH_take (i := 5) (oi := { dst := some 50, op := Op.slice 29 (Operand.tmp 48) none (some (Operand.tmp 49)) none, type := 29, pos := "law.go:92", after := #[{ on := 3, ground := Ground.data }, { on := 4, ground := Ground.data }, { on := 2, ground := Ground.guard }], guard := some (2, false) }) (v := ?_) rfl (by kernel_rfl) (by kernel_rfl) (by kernel_rfl) (fun _ _ _ h => h) (Or.inl ⟨by rfl, ?_⟩) (by assumption) ?_
            rotate_left
            · intro w hSw
              try dsimp only at hSw
              go_simp
              try with_reducible rfl
            try simp only [Act.put, List.setIfInBounds_toArray, List.set_cons_zero, List.set_cons_succ]
            refine wpAnyH_take (i := 6) (oi := { dst := some 51, op := Op.move (Operand.tmp 10), type := 3, pos := "law.go:92", after := #[{ on := 2, ground := Ground.guard }], guard := some (2, false) }) (v := ?_) rfl (by kernel_rfl) (by kernel_rfl) (by kernel_rfl) (fun _ _ _ h => h) (Or.inl ⟨by rfl, ?_⟩) (by assumption) ?_
            rotate_left
            · intro w hSw
              try dsimp only at hSw
              go_simp
              try with_reducible rfl
            try simp only [Act.put, List.setIfInBounds_toArray, List.set_cons_zero, List.set_cons_succ]
            refine wpAnyH_ready (rs := [7]) (by kernel_rfl) (by simp) ?_
            refine AllReadyH.cons (o := { dst := some 52, op := Op.call { callee := Callee.value (Operand.func 27), args := #[Operand.tmp 50, Operand.tmp 51], argTypes := #[29, 3] }, type := 4, pos := "law.go:92", after := #[{ on := 5, ground := Ground.data }, { on := 6, ground := Ground.data }, { on := 2, ground := Ground.chain }, { on := 2, ground := Ground.guard }], guard := some (2, false) }) rfl (fun K hK => ?_) AllReadyH.nil
            go_simp
            go_at_call 27
            refine (HH1.out _ gd).mono ?_
            rintro e wa ⟨rfl, ga⟩
            refine hK.out _ _ (HF.out _ ga) (fun hHeld => ?_)
            clear hK K
            try simp only [Act.put, List.setIfInBounds_toArray, List.set_cons_zero, List.set_cons_succ]
            refine wpAnyH_take (i := 8) (oi := { dst := some 53, op := Op.pick (Operand.tmp 47) (Operand.const (Value.bool true)) (Operand.tmp 52), type := 4, pos := "law.go:92", after := #[{ on := 2, ground := Ground.data }, { on := 7, ground := Ground.data }], guard := none }) (v := ?_) rfl (by kernel_rfl) (by kernel_rfl) (by kernel_rfl) (fun _ _ _ h => h) (Or.inl ⟨by rfl, ?_⟩) (by assumption) ?_
            rotate_left
            · intro w hSw
              try dsimp only at hSw
              go_simp
              try with_reducible rfl
            try simp only [Act.put, List.setIfInBounds_toArray, List.set_cons_zero, List.set_cons_succ]
            refine wpAnyH_take (i := 9) (oi := { dst := some 54, op := Op.move (Operand.tmp 53), type := 4, pos := "law.go:92", after := #[{ on := 8, ground := Ground.data }, { on := 7, ground := Ground.chain }], guard := none }) (v := ?_) rfl (by kernel_rfl) (by kernel_rfl) (by kernel_rfl) (fun _ _ _ h => h) (Or.inl ⟨by rfl, ?_⟩) (by assumption) ?_
            rotate_left
            · intro w hSw
              try dsimp only at hSw
              go_simp
              try with_reducible rfl
            try simp only [Act.put, List.setIfInBounds_toArray, List.set_cons_zero, List.set_cons_succ]
            refine wpAnyH_take (i := 10) (oi := { dst := some 55, op := Op.move (Operand.tmp 10), type := 3, pos := "law.go:92", after := #[{ on := 9, ground := Ground.guard }], guard := some (9, false) }) (v := ?_) rfl (by kernel_rfl) (by kernel_rfl) (by kernel_rfl) (fun _ _ _ h => h) (Or.inl ⟨by rfl, ?_⟩) (by assumption) ?_
            rotate_left
            · intro w hSw
              try dsimp only at hSw
              go_simp
              try with_reducible rfl
            try simp only [Act.put, List.setIfInBounds_toArray, List.set_cons_zero, List.set_cons_succ]
            refine wpAnyH_take (i := 11) (oi := { dst := some 56, op := Op.binOp BinOp.neq 3 (Operand.tmp 55) (Operand.const (Value.int IntKind.i64 1)) 3, type := 4, pos := "law.go:92", after := #[{ on := 10, ground := Ground.data }, { on := 9, ground := Ground.guard }], guard := some (9, false) }) (v := ?_) rfl (by kernel_rfl) (by kernel_rfl) (by kernel_rfl) (fun _ _ _ h => h) (Or.inl ⟨by rfl, ?_⟩) (by assumption) ?_
            rotate_left
            · intro w hSw
              try dsimp only at hSw
              go_simp
              try with_reducible rfl
            try simp only [Act.put, List.setIfInBounds_toArray, List.set_cons_zero, List.set_cons_succ]
            refine wpAnyH_take (i := 12) (oi := { dst := some 57, op := Op.move (Operand.tmp 56), type := 4, pos := "law.go:92", after := #[{ on := 11, ground := Ground.data }, { on := 9, ground := Ground.chain }, { on := 9, ground := Ground.guard }], guard := some (9, false) }) (v := ?_) rfl (by kernel_rfl) (by kernel_rfl) (by kernel_rfl) (fun _ _ _ h => h) (Or.inl ⟨by rfl, ?_⟩) (by assumption) ?_
            rotate_left
            · intro w hSw
              try dsimp only at hSw
              go_simp
              try with_reducible rfl
            try simp only [Act.put, List.setIfInBounds_toArray, List.set_cons_zero, List.set_cons_succ]
            refine wpAnyH_take (i := 13) (oi := { dst := some 58, op := Op.move (Operand.tmp 7), type := 29, pos := "law.go:92", after := #[{ on := 12, ground := Ground.guard }], guard := some (12, true) }) (v := ?_) rfl (by kernel_rfl) (by kernel_rfl) (by kernel_rfl) (fun _ _ _ h => h) (Or.inl ⟨by rfl, ?_⟩) (by assumption) ?_
            rotate_left
            · intro w hSw
              try dsimp only at hSw
              go_simp
              try with_reducible rfl
            try simp only [Act.put, List.setIfInBounds_toArray, List.set_cons_zero, List.set_cons_succ]
            refine wpAnyH_take (i := 14) (oi := { dst := some 59, op := Op.move (Operand.tmp 9), type := 3, pos := "law.go:92", after := #[{ on := 12, ground := Ground.guard }], guard := some (12, true) }) (v := ?_) rfl (by kernel_rfl) (by kernel_rfl) (by kernel_rfl) (fun _ _ _ h => h) (Or.inl ⟨by rfl, ?_⟩) (by assumption) ?_
            rotate_left
            · intro w hSw
              try dsimp only at hSw
              go_simp
              try with_reducible rfl
            try simp only [Act.put, List.setIfInBounds_toArray, List.set_cons_zero, List.set_cons_succ]
            refine wpAnyH_take (i := 15) (oi := { dst := some 60, op := Op.slice 29 (Operand.tmp 58) none (some (Operand.tmp 59)) none, type := 29, pos := "law.go:92", after := #[{ on := 13, ground := Ground.data }, { on := 14, ground := Ground.data }, { on := 12, ground := Ground.guard }], guard := some (12, true) }) (v := ?_) rfl (by kernel_rfl) (by kernel_rfl) (by kernel_rfl) (fun _ _ _ h => h) (Or.inl ⟨by rfl, ?_⟩) (by assumption) ?_
            rotate_left
            · intro w hSw
              try dsimp only at hSw
              go_simp
              try with_reducible rfl
            try simp only [Act.put, List.setIfInBounds_toArray, List.set_cons_zero, List.set_cons_succ]
            refine wpAnyH_take (i := 16) (oi := { dst := some 61, op := Op.fieldAddr 47 (Operand.tmp 11) 2, type := 0, pos := "law.go:92", after := #[{ on := 12, ground := Ground.guard }], guard := some (12, true) }) (v := ?_) rfl (by kernel_rfl) (by kernel_rfl) (by kernel_rfl) (fun _ _ _ h => h) (Or.inl ⟨by rfl, ?_⟩) (by assumption) ?_
            rotate_left
            · intro w hSw
              try dsimp only at hSw
              go_simp
              try with_reducible rfl
            try simp only [Act.put, List.setIfInBounds_toArray, List.set_cons_zero, List.set_cons_succ]
            refine wpAnyH_ready (rs := [17]) (by kernel_rfl) (by simp) ?_
            refine AllReadyH.cons (o := { dst := some 62, op := Op.load 3 (Operand.tmp 61), type := 3, pos := "law.go:92", after := #[{ on := 16, ground := Ground.data }, { on := 12, ground := Ground.guard }], guard := some (12, true) }) rfl (fun K hK => ?_) AllReadyH.nil
            go_simp
            refine hK.out _ _ (HF.out _ ga) (fun hHeld => ?_)
            clear hK K
            try simp only [Act.put, List.setIfInBounds_toArray, List.set_cons_zero, List.set_cons_succ]
            refine wpAnyH_ready (rs := [18]) (by kernel_rfl) (by simp) ?_
            refine AllReadyH.cons (o := { dst := some 63, op := Op.call { callee := Callee.value (Operand.func 27), args := #[Operand.tmp 60, Operand.tmp 62], argTypes := #[29, 3] }, type := 4, pos := "law.go:92", after := #[{ on := 15, ground := Ground.data }, { on := 17, ground := Ground.data }, { on := 12, ground := Ground.chain }, { on := 12, ground := Ground.guard }], guard := some (12, true) }) rfl (fun K hK => ?_) AllReadyH.nil
            go_simp
            go_at_call 27
            refine (HH2'.out _ ga).mono ?_
            rintro e wb ⟨rfl, gb⟩
            refine hK.out _ _ (HF.out _ gb) (fun hHeld => ?_)
            clear hK K
            try simp only [Act.put, List.setIfInBounds_toArray, List.set_cons_zero, List.set_cons_succ]
            refine wpAnyH_take (i := 19) (oi := { dst := some 64, op := Op.unOp UnOp.not 4 (Operand.tmp 63), type := 4, pos := "law.go:92", after := #[{ on := 18, ground := Ground.data }, { on := 12, ground := Ground.guard }], guard := some (12, true) }) (v := ?_) rfl (by kernel_rfl) (by kernel_rfl) (by kernel_rfl) (fun _ _ _ h => h) (Or.inl ⟨by rfl, ?_⟩) (by assumption) ?_
            rotate_left
            · intro w hSw
              try dsimp only at hSw
              go_simp
              try with_reducible rfl
            try simp only [Act.put, List.setIfInBounds_toArray, List.set_cons_zero, List.set_cons_succ]
            refine wpAnyH_take (i := 20) (oi := { dst := some 65, op := Op.pick (Operand.tmp 57) (Operand.tmp 64) (Operand.const (Value.bool false)), type := 4, pos := "law.go:92", after := #[{ on := 12, ground := Ground.data }, { on := 19, ground := Ground.data }, { on := 9, ground := Ground.guard }], guard := some (9, false) }) (v := ?_) rfl (by kernel_rfl) (by kernel_rfl) (by kernel_rfl) (fun _ _ _ h => h) (Or.inl ⟨by rfl, ?_⟩) (by assumption) ?_
            rotate_left
            · intro w hSw
              try dsimp only at hSw
              go_simp
              try with_reducible rfl
            try simp only [Act.put, List.setIfInBounds_toArray, List.set_cons_zero, List.set_cons_succ]
            refine wpAnyH_take (i := 21) (oi := { dst := some 66, op := Op.pick (Operand.tmp 54) (Operand.const (Value.bool true)) (Operand.tmp 65), type := 4, pos := "law.go:92", after := #[{ on := 9, ground := Ground.data }, { on := 20, ground := Ground.data }], guard := none }) (v := ?_) rfl (by kernel_rfl) (by kernel_rfl) (by kernel_rfl) (fun _ _ _ h => h) (Or.inl ⟨by rfl, ?_⟩) (by assumption) ?_
            rotate_left
            · intro w hSw
              try dsimp only at hSw
              go_simp
              try with_reducible rfl
            try simp only [Act.put, List.setIfInBounds_toArray, List.set_cons_zero, List.set_cons_succ]
            refine wpAnyH_done (by kernel_rfl) ?_ _
            go_wp2_with fail
            go_meet
            exact ⟨rfl, gb⟩
        case rest =>
        obtain ⟨rfl, HBc⟩ := hcut
        have HBc5 := hid_mk (HFIN.out _ HBc.out)
        obtain ⟨b1, hb1⟩ : ∃ b1, b1 = decide (x ∈ preO m top) := ⟨_, rfl⟩
        have h27 := HHI.out wc HBc5.out x
        rw [← hb1] at h27 hbo
        clear HH1 HH2 HF gd HBc hb1 HHI HM HFIN
        by_cases hxt : x = top
        · have q2 : (x == top) = true := by simp [hxt]
          rw [q2, Bool.true_or] at hbo
          subst hbo
          clear hxt HUP hpar
          go_wp2_with (go_at_call 27; fail)
          refine h27.mono ?_
          rintro e w8 ⟨rfl, hB8⟩
          have HB8 := hid_mk (HBc5.out.trans (hB8.mono HBc5.out.size))
          clear h27 hB8
          go_wp2
          exact ⟨⟨t + 1, htl, by go_num, HB8⟩, by simp only [intOf]; omega⟩
        · have q2 : (x == top) = false := by simp [hxt]
          rw [q2, Bool.false_or] at hbo
          have HBO := hid_mk hbo
          clear hxt hbo
          go_wp2_with (go_at_call 27; fail)
          refine h27.mono ?_
          rintro e w8 ⟨rfl, hB8⟩
          have HB8 := hid_mk (HBc5.out.trans (hB8.mono HBc5.out.size))
          have h13 := HUP.out w8 HB8.out x
          rw [hpar] at h13
          clear h27 hB8 HUP hpar
          go_wp2_with (go_at_call 13; fail)
          refine h13.mono ?_
          rintro e w9 ⟨ua, un, uc, rfl, HU, hB9⟩
          have HB9 := hid_mk (HB8.out.trans (hB9.mono HB8.out.size))
          have h27b := has_any HU.out top
          rw [← HBO.out] at h27b
          clear h13 hB9 HU HBO
          go_wp2_with (go_at_call 27; fail)
          refine h27b.mono ?_
          rintro e w10 ⟨rfl, hB10⟩
          have HB10 := hid_mk (HB9.out.trans (hB10.mono HB9.out.size))
          clear h27b hB10
          have qb : (b1 == b1) = true := by cases b1 <;> rfl
          have qn : (b1 != b1) = false := by cases b1 <;> rfl
          go_wp2
          exact ⟨⟨t + 1, htl, by go_num, HB10⟩, by simp only [intOf]; omega⟩
      · obtain rfl : t = P.length := by omega
        clear HLC HND HON HUP HHI HHT
        go_wp2_with (go_at_call 7; fail)
        refine (HLV.out wr).mono ?_
        rintro e w6 ⟨rfl, hB6⟩
        go_wp2
        go_ret
        exact ⟨rfl, HB5.out.trans (HBr.out.mono HB5.out.size |>.trans (hB6.mono (Nat.le_trans HB5.out.size HBr.out.size)))⟩

end Go.Proofs.YtoncgmnccgegmaaGreat.N
