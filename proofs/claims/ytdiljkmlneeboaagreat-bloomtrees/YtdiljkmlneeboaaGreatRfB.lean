/- The document's with and without. The document's Name. The document's New and Attr. -/
import Derived.Test.YtdiljkmlneeboaaGreatRfD
import Derived.Test.YtdiljkmlneeboaaGreatNewN
import Derived.Laws.IdiomStrings
import Derived.Test.YtdiljkmlneeboaaGreatSatO
namespace Go.Proofs.YtdiljkmlneeboaaGreat.N
open Go.RowKit
set_option maxRecDepth 100000

theorem row_one {W : World} {g : Nat} {v : Value} {t : TypeId} (h : W.heap[g]? = some (.cells #[v] t (0, 0))) (h1 : v.oneCell' = true) : RowAt W 1 (some ⟨g, 0, none⟩) 1 1 [v] := by
  refine ⟨rfl, Nat.le_refl _, by decide, fun u hu => ?_, .inr ⟨g, 0, rfl, (Array.getElem?_eq_some_iff.1 h).1, fun j u hu => ?_⟩⟩
  · rw [List.mem_singleton] at hu
    rw [hu]
    exact h1
  · have hj : j < 1 := (List.getElem?_eq_some_iff.1 hu).1
    obtain rfl : j = 0 := by omega
    simp only [List.getElem?_cons_zero] at hu
    simp [World.cell?, h, hu]
theorem intsV_take (a : List Int) (n : Nat) : intsV (a.take n) = (intsV a).take n := by simp [intsV, List.map_take]
theorem intsV_drop (a : List Int) (n : Nat) : intsV (a.drop n) = (intsV a).drop n := by simp [intsV, List.map_drop]

set_option maxHeartbeats 4000000 in
theorem rwithout_any {w : World} {a : Option Addr} {n c : Nat} {ks : List Int} (h : RowAt w 1 a n c (intsV ks)) (hn : n ≤ 200000) (id : Int) : Calls Tryz.prog 107 #[.slice a n c, .int .i64 id] w fun x w' => ∃ a' c', x = .returned (.slice a' (rmv ks id).length c') ∧ RowAt w' 1 a' (rmv ks id).length c' (intsV (rmv ks id)) ∧ NewAt w.heap.size a' ∧ Below w.heap.size w w' := by
  obtain rfl : n = ks.length := by have := h.1; rw [intsV_len] at this; omega
  have hb1 := h.2.1
  have hm1 := h.2.2.1
  unfold maxLen at hm1
  have HC : Hid (∀ w', Below w.heap.size w w' → ∀ t (ht : t < ks.length), ∃ ab ao, a = some ⟨ab, ao, none⟩ ∧ w'.cell? ⟨ab, ao + t, none⟩ = some (.int .i64 ks[t])) := fun w' hw' t ht => by
    rcases (h.keep hw').2.2.2.2 with ⟨_, h0⟩ | ⟨ab, ao, e1, l1, g1⟩
    · omega
    · exact ⟨ab, ao, e1, g1 t _ (intsV_at ht)⟩
  clear h
  obtain ⟨i3, z3, hi0, hz0, hz1, hz2, rfl⟩ := info3r
  have HI3 := hid_mk hi0
  have HZ0 := hid_mk hz0
  have HZ1 := hid_mk hz1
  have HZ2 := hid_mk hz2
  clear hi0 hz0 hz1 hz2
  go_enter Tryz.func107, Tryz.ntmps107
  go_wp2
  go_loopw [5, 10] (fun a5 a10 wq => ∃ t : Nat, t ≤ ks.length ∧ a10 = .int .i64 (t : Int) ∧ Hid (wq.ownsRow w.heap.size 3 1 a5 (rmv (ks.take t) id).length (intsV (rmv (ks.take t) id))) ∧ Hid (Below w.heap.size w wq)) (fun _ a10 _ => ks.length + 1 - (intOf a10).toNat)
  case atStart => exact ⟨0, Nat.zero_le _, rfl, ⟨by simp [rmv, intsV], .inl ⟨rfl, by simp [rmv]⟩⟩, hid_mk (Below.refl _ _)⟩
  case round =>
    obtain ⟨t, ht, rfl, HO, HB⟩ := hrel
    by_cases htl : t < ks.length
    · obtain ⟨ab, ao, rfl, hcl⟩ := HC.out wr HB.out t htl
      have htake : ks.take (t + 1) = ks.take t ++ [ks[t]] := by rw [List.take_add_one, List.getElem?_eq_getElem htl]; rfl
      by_cases hq : ks[t] = id
      · have hb : (ks[t] != id) = false := by simpa using hq
        have HE : Hid (rmv (ks.take (t + 1)) id = rmv (ks.take t) id) := by
          show _ = _
          have e1 : [ks[t]].filter (fun y => y != id) = [] := by simp [hq]
          unfold rmv
          rw [htake, List.filter_append, e1, List.append_nil]
        have HO2 : Hid (wr.ownsRow w.heap.size 3 1 u5 (rmv (ks.take (t + 1)) id).length (intsV (rmv (ks.take (t + 1)) id))) := by rw [HE.out]; exact HO
        generalize ks[t] = kk at *
        clear HC hq htake HO HE
        go_wp2
        exact ⟨⟨t + 1, htl, by go_num, HO2, HB⟩, by simp only [intOf]; omega⟩
      · have hb : (ks[t] != id) = true := by simpa using hq
        have HE : Hid (rmv (ks.take (t + 1)) id = rmv (ks.take t) id ++ [ks[t]]) := by
          show _ = _
          have e1 : [ks[t]].filter (fun y => y != id) = [ks[t]] := by simp [hq]
          unfold rmv
          rw [htake, List.filter_append, e1]
        have hlen : (rmv (ks.take t) id).length ≤ 200000 := by
          have : (rmv (ks.take t) id).length ≤ (ks.take t).length := List.length_filter_le _ _
          rw [List.length_take] at this
          omega
        have hA : Below wr.heap.size wr (wr.alloc (.cells #[.int .i64 ks[t]] 3)) := (Below.refl _ _).alloc (Nat.le_refl _) _
        have hown := ownsRow_below HO.out hA
        have hrow : RowAt (wr.alloc (.cells #[.int .i64 ks[t]] 3)) 1 (some ⟨wr.heap.size, 0, none⟩) 1 1 (intsV [ks[t]]) := row_one (heap_alloc_last wr _) rfl
        have hBs : w.heap.size ≤ (wr.alloc (.cells #[.int .i64 ks[t]] 3)).heap.size := Nat.le_trans HB.out.size hA.size
        have HBA := hid_mk (HB.out.trans (hA.mono HB.out.size))
        have hi0 := HI3.out
        have hz0 := HZ0.out
        have hz1 := HZ1.out
        have hz2 := HZ2.out
        generalize ks[t] = kk at *
        clear HC hq htake HO hA
        go_wp2_with (at_builtin; go_must (refine wpList_append_rowAt rfl _ _ 43 rfl (B := w.heap.size) Tryz.underlying43 hi0 hz0 hz1 hz2 rfl (by decide) (by decide) rfl rfl hown hrow (by omega) hBs ?_); intro v' w3 hown3 hgrow3 _; have HO3 := hid_mk hown3; have HB3 : Hid (Below w.heap.size w w3) := HBA.out.grown hgrow3 HBA.out.size (fun k hk => (hown.lt k hk).1); clear hown3 hgrow3)
        have HO4 : Hid (w3.ownsRow w.heap.size 3 1 v' (rmv (ks.take (t + 1)) id).length (intsV (rmv (ks.take (t + 1)) id))) := by
          rw [HE.out, List.length_append, intsV_app]
          exact HO3
        exact ⟨⟨t + 1, htl, by go_num, HO4, HB3⟩, by simp only [intOf]; omega⟩
    · obtain rfl : t = ks.length := by omega
      have hO := HO.out
      rw [List.take_length] at hO
      obtain ⟨a', c', rfl, hr, hw⟩ := RowAt.of_owns hO (intsV_one _)
      have HR := hid_mk hr
      have HW := hid_mk hw
      clear HC hO hr hw HO
      go_wp2
      go_ret
      exact ⟨a', c', rfl, HR.out, HW.out, HB.out⟩

theorem ret_sl {a : Option Addr} {n n' c : Nat} (h : n = n') : Ending.returned (.slice a n c) = .returned (.slice a n' c) := by rw [h]
theorem ins_intsV (ks : List Int) (i : Nat) (x : Int) : intsV (ins ks i x) = (intsV ks).take i ++ intsV [x] ++ (intsV ks).drop i := by
  unfold ins
  rw [intsV_app, intsV_app, intsV_take, intsV_drop]
set_option maxHeartbeats 4000000 in
theorem rwith_any {w : World} {a : Option Addr} {n c : Nat} {ks : List Int} (h : RowAt w 1 a n c (intsV ks)) (hn : n ≤ 200000) (i : Nat) (hi : i ≤ n) (id : Int) : Calls Tryz.prog 105 #[.slice a n c, .int .i64 (i : Int), .int .i64 id] w fun x w' => ∃ a' c', x = .returned (.slice a' (n + 1) c') ∧ RowAt w' 1 a' (n + 1) c' (intsV (ins ks i id)) ∧ NewAt w.heap.size a' ∧ Below w.heap.size w w' := by
  have hb1 := h.2.1
  have hm1 := h.2.2.1
  unfold maxLen at hm1
  have HH := hid_mk h
  clear h
  obtain ⟨i3, z3, hi0, hz0, hz1, hz2, rfl⟩ := info3r
  have hBa : Below w.heap.size w (w.alloc (.cells #[] 3)) := (Below.refl _ _).alloc (Nat.le_refl _) _
  have hown := own_empty w 3 1
  have hrow := (HH.out.take i hi).keep hBa
  have hBs : w.heap.size ≤ (w.alloc (.cells #[] 3)).heap.size := hBa.size
  have HBa := hid_mk hBa
  clear hBa
  go_enter Tryz.func105, Tryz.ntmps105
  go_upto_region 2 with (at_builtin; go_must (refine wpList_append_rowAt rfl _ _ 43 rfl (B := w.heap.size) Tryz.underlying43 hi0 hz0 hz1 hz2 rfl (by decide) (by decide) rfl rfl hown hrow (by omega) hBs ?_); intro v1 w1 hown1 hgrow1 _; rw [Nat.zero_add, List.nil_append, Nat.mul_one] at hown1; have HO1 := hid_mk hown1; have HB1 : Hid (Below w.heap.size w w1) := HBa.out.grown hgrow1 HBa.out.size (fun k hk => (hown.lt k hk).1); clear hown1 hgrow1)
  clear hown hrow hBs HBa
  have hA : Below w1.heap.size w1 (w1.alloc (.cells #[.int .i64 id] 3)) := (Below.refl _ _).alloc (Nat.le_refl _) _
  have hown := ownsRow_below HO1.out hA
  have hrow : RowAt (w1.alloc (.cells #[.int .i64 id] 3)) 1 (some ⟨w1.heap.size, 0, none⟩) 1 1 (intsV [id]) := row_one (heap_alloc_last w1 _) rfl
  have hBs : w.heap.size ≤ (w1.alloc (.cells #[.int .i64 id] 3)).heap.size := Nat.le_trans HB1.out.size hA.size
  have HBA := hid_mk (HB1.out.trans (hA.mono HB1.out.size))
  clear hA HO1
  go_upto_region 3 with (at_builtin; go_must (refine wpList_append_rowAt rfl _ _ 43 rfl (B := w.heap.size) Tryz.underlying43 hi0 hz0 hz1 hz2 rfl (by decide) (by decide) rfl rfl hown hrow (by omega) hBs ?_); intro v2 w2 hown2 hgrow2 _; have HO2 := hid_mk hown2; have HB2 : Hid (Below w.heap.size w w2) := HBA.out.grown hgrow2 HBA.out.size (fun k hk => (hown.lt k hk).1); clear hown2 hgrow2)
  clear hown hrow hBs HBA
  have hown := HO2.out
  have hBs : w.heap.size ≤ w2.heap.size := HB2.out.size
  rcases HH.out.2.2.2.2 with ⟨ha, hc0⟩ | ⟨ab, ao, ha, hal, _⟩
  · subst ha
    obtain rfl : n = 0 := by omega
    obtain rfl : i = 0 := by omega
    have hk0 : ks = [] := by
      have := HH.out.1
      rw [intsV_len] at this
      exact List.length_eq_zero_iff.1 (by omega)
    subst hk0
    subst hc0
    have hrow : RowAt w2 1 none 0 0 [] := RowAt.nil w2 1
    go_wp2_with (at_builtin; go_must (refine wpList_append_rowAt rfl _ _ 43 rfl (B := w.heap.size) Tryz.underlying43 hi0 hz0 hz1 hz2 rfl (by decide) (by decide) rfl rfl hown hrow (by omega) hBs ?_); intro v3 w3 hown3 hgrow3 _; obtain ⟨a', c', rfl, hr, hw⟩ := RowAt.of_owns hown3 (by simpa [intsV] using intsV_one [id]); have HR := hid_mk hr; have HW := hid_mk hw; have HB3 : Hid (Below w.heap.size w w3) := HB2.out.grown hgrow3 HB2.out.size (fun k hk => (hown.lt k hk).1); clear hown3 hgrow3 hr hw)
    go_ret
    exact ⟨a', c', rfl, by simpa [ins, intsV] using HR.out, HW.out, HB3.out⟩
  · subst ha
    have hrow0 := (HH.out.drop i hi).keep HB2.out
    rw [Nat.mul_one] at hrow0
    have hrow : RowAt w2 1 (if c = i then some ⟨ab, ao, none⟩ else some ⟨ab, ao + i, none⟩) (n - i) (c - i) ((intsV ks).drop i) := by
      split
      · next e =>
        refine ⟨hrow0.1, hrow0.2.1, hrow0.2.2.1, hrow0.2.2.2.1, .inr ⟨ab, ao, rfl, Nat.lt_of_lt_of_le hal HB2.out.size, fun j u hu => ?_⟩⟩
        have h1 := (List.getElem?_eq_some_iff.1 hu).1
        have h2 := hrow0.1
        omega
      · exact hrow0
    clear hrow0
    have H1 : Hid (∀ u ∈ (intsV ks).take i ++ intsV [id] ++ (intsV ks).drop i, u.oneCell' = true) := by rw [← ins_intsV]; exact intsV_one _
    go_wp2_with (at_builtin; go_must (refine wpList_append_rowAt rfl _ _ 43 rfl (B := w.heap.size) Tryz.underlying43 hi0 hz0 hz1 hz2 rfl (by decide) (by decide) rfl rfl hown hrow (by omega) hBs ?_); intro v3 w3 hown3 hgrow3 _; obtain ⟨a', c', rfl, hr, hw⟩ := RowAt.of_owns hown3 H1.out; have HR := hid_mk hr; have HW := hid_mk hw; have HB3 : Hid (Below w.heap.size w w3) := HB2.out.grown hgrow3 HB2.out.size (fun k hk => (hown.lt k hk).1); clear hown3 hgrow3 hr hw)
    all_goals
      have e1 : i + 1 + (n - i) = n + 1 := by omega
      have HR2 : Hid (RowAt w3 1 a' (n + 1) c' (intsV (ins ks i id))) := by
        have := HR.out
        rw [e1] at this
        rw [Hid, ins_intsV]
        exact this
      go_ret
      exact ⟨a', c', ret_sl e1, HR2.out, HW.out, HB3.out⟩

end Go.Proofs.YtdiljkmlneeboaaGreat.N
namespace Go.Proofs.YtdiljkmlneeboaaGreat.N
open Go.RowKit
set_option maxRecDepth 100000

def bytesOk (s : ByteArray) : Nat → Nat → Bool
  | 0, _ => true
  | f + 1, pos => if pos < s.size then fitZ (pos == 0) (s.get! pos).toNat && bytesOk s f (pos + 1) else true

theorem fit_high (first : Bool) (c : Int) (h : 128 ≤ c) : fitZ first c = false := by
  have h1 : smallZ c = false := by simp only [smallZ, Bool.and_eq_false_iff, decide_eq_false_iff_not]; omega
  have h2 : digitZ c = false := by simp only [digitZ, Bool.and_eq_false_iff, decide_eq_false_iff_not]; omega
  have h3 : (c == 45) = false := beq_eq_false_iff_ne.2 (by omega)
  have h4 : (c == 95) = false := beq_eq_false_iff_ne.2 (by omega)
  cases first <;> simp [fitZ, h1, h2, h3, h4]

theorem names_bytes (s : ByteArray) : ∀ fuel pos, namesZ (pos == 0) (charsFrom s fuel pos) = bytesOk s fuel pos
  | 0, _ => rfl
  | f + 1, pos => by
    by_cases hp : pos < s.size
    · have hg : s.get! pos = s[pos]'hp := get_at s pos hp
      simp only [charsFrom, bytesOk, if_pos hp, namesZ, hg]
      by_cases ha : (s[pos]'hp).toNat < 128
      · rw [decode_ascii s pos hp ha]
        have := names_bytes s f (pos + 1)
        rw [show (pos + 1 == 0) = false by simp] at this
        rw [this]
      · rw [fit_high _ _ (by have := (decode_high s pos hp (by omega)).1; omega), fit_high _ _ (by omega)]
        simp
    · simp [charsFrom, bytesOk, hp, namesZ]

theorem bytesOk_end (s : ByteArray) (f pos : Nat) (h : ¬ pos < s.size) : bytesOk s f pos = true := by
  cases f <;> simp [bytesOk, h]

theorem fit_yes0 {c : Int} (h1 : 97 ≤ c) (h2 : c ≤ 122) (first : Bool) : fitZ first c = true := by
  cases first <;> simp [fitZ, smallZ, h1, h2]
theorem fit_no0 {c : Int} (h : ¬ (97 ≤ c ∧ c ≤ 122)) : fitZ true c = false := by
  simp only [fitZ, smallZ, if_true, Bool.and_eq_false_iff, decide_eq_false_iff_not]; omega
theorem fit_rest {c : Int} : fitZ false c = decide ((97 ≤ c ∧ c ≤ 122) ∨ (48 ≤ c ∧ c ≤ 57) ∨ c = 45 ∨ c = 95) := by
  rw [Bool.eq_iff_iff]
  simp [fitZ, smallZ, digitZ]
  omega

set_option maxHeartbeats 4000000 in
set_option maxRecDepth 1000000 in
theorem refName_loop (s : ByteArray) (w : World) (hs : s.size ≤ 281474976710656) :
    Calls Tryz.prog 102 #[.string s] w fun e w' => e = .returned (.bool (bytesOk s s.size 0 && (decide (1 ≤ s.size) && decide (s.size ≤ 64)))) ∧ w = w' := by
  go_enter Tryz.func102, Tryz.ntmps102
  go_wp2
  go_loop [3] (fun i => ∃ k f : Nat, k ≤ s.size ∧ i = .int .i64 k ∧ bytesOk s f k = bytesOk s s.size 0 ∧ s.size ≤ k + f) (fun i => s.size - (intOf i).toNat)
  case atStart => exact ⟨0, s.size, Nat.zero_le _, rfl, rfl, by omega⟩
  case round =>
    obtain ⟨k, f, hk, rfl, hok, hf⟩ := hrel
    by_cases hlt : k < s.size
    · obtain ⟨f, rfl⟩ : ∃ g, f = g + 1 := ⟨f - 1, by omega⟩
      simp only [bytesOk, if_pos hlt] at hok
      rw [show s.get! k = s[k]'hlt from get_at s k hlt] at hok
      obtain ⟨c, hc⟩ : ∃ c : Nat, (s[k]'hlt).toNat = c := ⟨_, rfl⟩
      rw [hc] at hok
      have HO : Hid ((fitZ (k == 0) c && bytesOk s f (k + 1)) = bytesOk s s.size 0) := hok
      clear hok
      rcases (show (97 ≤ c ∧ c ≤ 122) ∨ ¬ (97 ≤ c ∧ c ≤ 122) by omega) with ⟨h1, h2⟩ | h1
      · go_wp2
        go_round
        case rel => exact ⟨k + 1, f, by omega, by go_num, by rw [← HO.out, fit_yes0 (by omega) (by omega)]; simp, by omega⟩
        case measure => simp [intOf]; omega
      · by_cases hk0 : k = 0
        · subst hk0
          have HF : Hid (bytesOk s s.size 0 = false) := by
            show _ = _
            rw [← HO.out, show ((0 : Nat) == 0) = true from rfl, fit_no0 (by omega)]
            rfl
          clear HO
          rcases (show c < 97 ∨ 122 < c by omega) with h2 | h2
          · clear h1
            go_wp2
            go_ret
            exact ⟨ret_bool (by rw [HF.out]; rfl), rfl⟩
          · clear h1
            have e122 : decide ((c : Int) ≤ 122) = false := decide_eq_false (by omega)
            go_wp2
            go_ret
            exact ⟨ret_bool (by rw [HF.out]; rfl), rfl⟩
        · have e0 : ((k : Int) == 0) = false := beq_eq_false_iff_ne.2 (by omega)
          have HO2 : Hid ((fitZ false c && bytesOk s f (k + 1)) = bytesOk s s.size 0) := by
            have := HO.out
            rw [show (k == 0) = false from beq_eq_false_iff_ne.2 hk0] at this
            exact this
          clear HO hk0
          rcases (show (48 ≤ c ∧ c ≤ 57) ∨ c = 45 ∨ c = 95 ∨ c < 45 ∨ (46 ≤ c ∧ c < 48) ∨ (58 ≤ c ∧ c < 95) ∨ c = 96 ∨ 122 < c by omega) with ⟨h2, h3⟩ | h2 | h2 | h2 | ⟨h2, h3⟩ | ⟨h2, h3⟩ | h2 | h2
          · have HR : Hid (bytesOk s f (k + 1) = bytesOk s s.size 0) := by
              show _ = _
              rw [← HO2.out, fit_rest, decide_eq_true (by omega)]
              rfl
            clear HO2 h1
            go_wp2
            go_round
            case rel => exact ⟨k + 1, f, by omega, by go_num, HR.out, by omega⟩
            case measure => simp [intOf]; omega
          · have HR : Hid (bytesOk s f (k + 1) = bytesOk s s.size 0) := by
              show _ = _
              rw [← HO2.out, fit_rest, decide_eq_true (by omega)]
              rfl
            clear HO2 h1
            subst h2
            go_wp2
            go_round
            case rel => exact ⟨k + 1, f, by omega, by go_num, HR.out, by omega⟩
            case measure => simp [intOf]; omega
          · have HR : Hid (bytesOk s f (k + 1) = bytesOk s s.size 0) := by
              show _ = _
              rw [← HO2.out, fit_rest, decide_eq_true (by omega)]
              rfl
            clear HO2 h1
            subst h2
            go_wp2
            go_round
            case rel => exact ⟨k + 1, f, by omega, by go_num, HR.out, by omega⟩
            case measure => simp [intOf]; omega
          · have HF : Hid (bytesOk s s.size 0 = false) := by
              show _ = _
              rw [← HO2.out, fit_rest, decide_eq_false (by omega)]
              rfl
            clear HO2 h1
            have e45 : ((c : Int) == 45) = false := beq_eq_false_iff_ne.2 (by omega)
            have e95 : ((c : Int) == 95) = false := beq_eq_false_iff_ne.2 (by omega)
            go_wp2
            go_ret
            exact ⟨ret_bool (by rw [HF.out]; rfl), rfl⟩
          · have HF : Hid (bytesOk s s.size 0 = false) := by
              show _ = _
              rw [← HO2.out, fit_rest, decide_eq_false (by omega)]
              rfl
            clear HO2 h1
            have e45 : ((c : Int) == 45) = false := beq_eq_false_iff_ne.2 (by omega)
            have e95 : ((c : Int) == 95) = false := beq_eq_false_iff_ne.2 (by omega)
            go_wp2
            go_ret
            exact ⟨ret_bool (by rw [HF.out]; rfl), rfl⟩
          · have HF : Hid (bytesOk s s.size 0 = false) := by
              show _ = _
              rw [← HO2.out, fit_rest, decide_eq_false (by omega)]
              rfl
            clear HO2 h1
            have e45 : ((c : Int) == 45) = false := beq_eq_false_iff_ne.2 (by omega)
            have e57 : decide ((c : Int) ≤ 57) = false := decide_eq_false (by omega)
            have e95 : ((c : Int) == 95) = false := beq_eq_false_iff_ne.2 (by omega)
            go_wp2
            go_ret
            exact ⟨ret_bool (by rw [HF.out]; rfl), rfl⟩
          · have HF : Hid (bytesOk s s.size 0 = false) := by
              show _ = _
              rw [← HO2.out, fit_rest, decide_eq_false (by omega)]
              rfl
            clear HO2 h1
            subst h2
            go_wp2
            go_ret
            exact ⟨ret_bool (by rw [HF.out]; rfl), rfl⟩
          · have HF : Hid (bytesOk s s.size 0 = false) := by
              show _ = _
              rw [← HO2.out, fit_rest, decide_eq_false (by omega)]
              rfl
            clear HO2 h1
            have e45 : ((c : Int) == 45) = false := beq_eq_false_iff_ne.2 (by omega)
            have e57 : decide ((c : Int) ≤ 57) = false := decide_eq_false (by omega)
            have e122 : decide ((c : Int) ≤ 122) = false := decide_eq_false (by omega)
            have e95 : ((c : Int) == 95) = false := beq_eq_false_iff_ne.2 (by omega)
            go_wp2
            go_ret
            exact ⟨ret_bool (by rw [HF.out]; rfl), rfl⟩
    · have HT : Hid (bytesOk s s.size 0 = true) := by
        show _ = _
        rw [← hok]
        exact bytesOk_end s f k hlt
      clear hok
      rcases (show s.size < 1 ∨ (1 ≤ s.size ∧ s.size ≤ 64) ∨ 64 < s.size by omega) with h1 | ⟨h1, h2⟩ | h1
      · go_wp2
        go_ret
        exact ⟨ret_bool (by rw [HT.out, Bool.true_and, Bool.eq_iff_iff]; simp; try omega), rfl⟩
      · go_wp2
        go_ret
        exact ⟨ret_bool (by rw [HT.out]; first | (exact decide_eq_true (by omega)) | (rw [Bool.true_and, Bool.eq_iff_iff]; simp; try omega)), rfl⟩
      · go_wp2
        go_ret
        exact ⟨ret_bool (by rw [HT.out, Bool.true_and, Bool.eq_iff_iff]; simp; try omega), rfl⟩

theorem refName_any (s : ByteArray) (w : World) (hs : s.size ≤ 281474976710656) :
    Calls Tryz.prog 102 #[.string s] w fun e w' => e = .returned (.bool (nameZ s)) ∧ w = w' := by
  have e : nameZ s = (bytesOk s s.size 0 && (decide (1 ≤ s.size) && decide (s.size ≤ 64))) := by
    unfold nameZ
    split
    · rename_i h
      rcases h with h | h
      · simp [h]
      · simp [show ¬ s.size ≤ 64 by omega]
    · have := names_bytes s s.size 0
      unfold chars
      rw [show ((0 : Nat) == 0) = true from rfl] at this
      rw [this]
      simp [show 1 ≤ s.size by omega, show s.size ≤ 64 by omega]
  rw [e]
  exact refName_loop s w hs

/-! ### Fold -/
end Go.Proofs.YtdiljkmlneeboaaGreat.N
namespace Go.Proofs.YtdiljkmlneeboaaGreat.N
open Go.RowKit
set_option maxRecDepth 100000

theorem rnew_no (tag : ByteArray) (w : World) (hs : tag.size ≤ 281474976710656) (hn : nameZ tag = false) : Calls Tryz.prog 63 #[.string tag] w fun x w' => x = .returned (.tuple #[.pointer none, .int .i64 7]) ∧ w' = w := by
  have h := refName_any tag w hs
  rw [hn] at h
  go_enter Tryz.func63, Tryz.ntmps63
  go_wp2_with (go_at_call 102; refine h.mono ?_; clear h; rintro e w1 ⟨rfl, rfl⟩)
  go_ret2
  exact ⟨rfl, rfl⟩
theorem rnew_yes (tag : ByteArray) (w : World) (hs : tag.size ≤ 281474976710656) (hn : nameZ tag = true) : Calls Tryz.prog 63 #[.string tag] w fun x w' => ∃ b, x = .returned (.tuple #[.pointer (some ⟨b, 0, none⟩), .int .i64 0]) ∧ RTree w' (.pointer (some ⟨b, 0, none⟩)) [⟨1, tag, 0, [], []⟩] (mset (fun _ => none) 1 ⟨1, tag, 0, [], []⟩) 2 ∧ Below w.heap.size w w' := by
  have h := refName_any tag w hs
  rw [hn] at h
  have hA : Below w.heap.size w (w.alloc (.cells #[.int .i64 1, .string tag, .int .i64 0, .slice none 0 0, .slice none 0 0] 76)) := (Below.refl _ _).alloc (Nat.le_refl _) _
  have hA2 : Below w.heap.size w ((w.alloc (.cells #[.int .i64 1, .string tag, .int .i64 0, .slice none 0 0, .slice none 0 0] 76)).alloc (.cells #[.slice (some ⟨w.heap.size, 0, none⟩) 1 1, .int .i64 2] 126)) := hA.alloc hA.size _
  have hs1 : (w.alloc (.cells #[.int .i64 1, .string tag, .int .i64 0, .slice none 0 0, .slice none 0 0] 76)).heap.size = w.heap.size + 1 := by simp
  have hb : ((w.alloc (.cells #[.int .i64 1, .string tag, .int .i64 0, .slice none 0 0, .slice none 0 0] 76)).alloc (.cells #[.slice (some ⟨w.heap.size, 0, none⟩) 1 1, .int .i64 2] 126)).heap[w.heap.size]? = some (.cells #[.int .i64 1, .string tag, .int .i64 0, .slice none 0 0, .slice none 0 0] 76 (0, 0)) := (((Below.refl (w.heap.size + 1) _).alloc (by rw [hs1]; omega) _).block _ (by omega)).trans (heap_alloc_last w _)
  have hd : ((w.alloc (.cells #[.int .i64 1, .string tag, .int .i64 0, .slice none 0 0, .slice none 0 0] 76)).alloc (.cells #[.slice (some ⟨w.heap.size, 0, none⟩) 1 1, .int .i64 2] 126)).heap[w.heap.size + 1]? = some (.cells #[.slice (some ⟨w.heap.size, 0, none⟩) 1 1, .int .i64 2] 126 (0, 0)) := by
    rw [← hs1]
    exact heap_alloc_last _ _
  have HR : Hid (RTree ((w.alloc (.cells #[.int .i64 1, .string tag, .int .i64 0, .slice none 0 0, .slice none 0 0] 76)).alloc (.cells #[.slice (some ⟨w.heap.size, 0, none⟩) 1 1, .int .i64 2] 126)) (.pointer (some ⟨w.heap.size + 1, 0, none⟩)) [⟨1, tag, 0, [], []⟩] (mset (fun _ => none) 1 ⟨1, tag, 0, [], []⟩) 2) := by
    generalize ((w.alloc (.cells #[.int .i64 1, .string tag, .int .i64 0, .slice none 0 0, .slice none 0 0] 76)).alloc (.cells #[.slice (some ⟨w.heap.size, 0, none⟩) 1 1, .int .i64 2] 126)) = W at *
    refine ⟨⟨w.heap.size + 1, _, 1, 1, rfl, hd, [⟨1, tag, 0, none, 0, 0, none, 0, 0⟩], ⟨rfl, Nat.le_refl _, by decide, flat5_one _, .inr ⟨w.heap.size, 0, rfl, (Array.getElem?_eq_some_iff.1 hb).1, fun j u hu => ?_⟩⟩, rfl, fun i hi hi' => ?_⟩, fun id => ?_, by simp, _, Inv.new uOk_nil tag⟩
    · simp only [World.cell?, hb]
      have hj : j < 5 := (List.getElem?_eq_some_iff.1 hu).1
      rw [Nat.zero_add]
      simpa [c5] using hu
    · have hi0 : i = 0 := by simp at hi; omega
      subst hi0
      exact ⟨rfl, rfl, rfl, RowAt.nil _ 1, RowAt.nil _ 2⟩
    · unfold findL mset
      by_cases h1 : id = 1
      · subst h1
        simp
      · rw [if_neg h1]
        simp
        omega
  have HB := hid_mk hA2
  clear hA hA2 hs1 hb hd
  go_enter Tryz.func63, Tryz.ntmps63
  go_wp2_with (go_at_call 102; refine h.mono ?_; clear h; rintro e w1 ⟨rfl, rfl⟩)
  go_ret2
  exact ⟨w.heap.size + 1, rfl, HR.out, HB.out⟩

theorem cmp_eq {a b : ByteArray} : (decide (cmpB a b = 0)) = (a == b) := by
  rw [beq_toListBytes, Bool.eq_iff_iff, decide_eq_true_iff, beq_iff_eq, ByteArray.toList_eq, ByteArray.toList_eq]
  exact ⟨fun h => by rw [cmpB_zero.1 h], fun h => cmpB_zero.2 (ByteArray.ext (Array.toList_inj.1 h))⟩

theorem valA_some {us : Us} {nm : ByteArray} {t : Nat} (h : t < us.length) (he : (us[t].1 == nm) = true) (hno : ∀ j (hj : j < us.length), j < t → (us[j].1 == nm) = false) : valA us nm = some us[t].2 := by
  have : us.find? (fun p => decide (cmpB p.1 nm = 0)) = some us[t] := by
    rw [List.find?_eq_some_iff_getElem]
    exact ⟨by rw [cmp_eq]; exact he, t, h, rfl, fun j hj => by simp only [cmp_eq]; rw [hno j (by omega) hj]; rfl⟩
  unfold valA
  rw [this]
  rfl
theorem valA_none {us : Us} {nm : ByteArray} (hno : ∀ j (hj : j < us.length), (us[j].1 == nm) = false) : valA us nm = none := by
  have : us.find? (fun p => decide (cmpB p.1 nm = 0)) = none := by
    rw [List.find?_eq_none]
    intro p hp
    obtain ⟨j, hj, rfl⟩ := List.getElem_of_mem hp
    rw [cmp_eq, hno j hj]
    simp
  unfold valA
  rw [this]
  rfl
theorem ret2_val {o : Option ByteArray} {v : ByteArray} {b : Bool} (h : o.getD ⟨#[]⟩ = v) (h2 : o.isSome = b) : Ending.returned (.tuple #[.string v, .bool b]) = .returned (.tuple #[.string (o.getD ⟨#[]⟩), .bool o.isSome]) := by rw [h, h2]
set_option maxHeartbeats 4000000 in
theorem rattr_any {w : World} {rp : Value} {L : List El} {m : M} {nx : Int} (h : RTree w rp L m nx) (id : Int) (nm : ByteArray) : Calls Tryz.prog 34 #[rp, .int .i64 id, .string nm] w fun x w' => x = .returned (.tuple #[.string ((attrZ m id nm).getD ⟨#[]⟩), .bool (attrZ m id nm).isSome]) ∧ Below w.heap.size w w' := by
  have hnd := rt_node h id
  have hz : attrZ m id nm = valA ((m id).getD zeroEl).us nm := by
    unfold attrZ
    cases m id with
    | none => rfl
    | some e => rfl
  rw [hz]
  have hus : ((m id).getD zeroEl).us.length ≤ 1000 := by
    cases e : m id with
    | none => simp [zeroEl]
    | some el =>
      obtain ⟨_, _, _, d, I⟩ := h
      have := (I.us e).1
      show el.us.length ≤ 1000
      omega
  clear hz h
  generalize (m id).getD zeroEl = el at *
  generalize (m id).isSome = bo at *
  go_enter Tryz.func34, Tryz.ntmps34
  go_wp2_with (go_at_call 33; fail)
  refine hnd.mono ?_
  rintro x w2 ⟨s, rfl, hE, _, hB2⟩
  obtain ⟨w3, hw3⟩ : ∃ w3, w3 = w2.alloc (.cells #[.int .i64 s.id, .string s.tag, .int .i64 s.par, .slice s.ka s.kn s.kc, .slice s.aa s.an s.ac] 76) := ⟨_, rfl⟩
  have hB23 : Below w2.heap.size w2 w3 := by rw [hw3]; exact (Below.refl _ _).alloc (Nat.le_refl _) _
  have HB3 : Hid (Below w.heap.size w w3) := hB2.trans (hB23.mono hB2.size)
  have hN3 : NodeAt w3 w2.heap.size s := by rw [hw3]; exact heap_alloc_last w2 _
  obtain ⟨⟨_, _, _, _, n4⟩, _⟩ := hN3.cells
  have han := hE.an
  have hE3 := hE.keep hB23
  have hcap1 := hE3.2.2.2.2.2.1
  have hcap2 := hE3.2.2.2.2.2.2.1
  unfold maxLen at hcap2
  have HAC : Hid (∀ W', Below w3.heap.size w3 W' → ∀ t (ht : t < el.us.length), ∃ ab ao, s.aa = some ⟨ab, ao, none⟩ ∧ W'.cell? ⟨ab, ao + t * 2, none⟩ = some (.string el.us[t].1) ∧ W'.cell? ⟨ab, ao + t * 2 + 1, none⟩ = some (.string el.us[t].2)) := fun W' hW' t ht => by
    rcases (hE3.keep hW').2.2.2.2.2.2.2.2 with ⟨_, h0⟩ | ⟨ab, ao, e1, l1, g1⟩
    · omega
    · obtain ⟨q1, q2⟩ := attrsV_at ht
      refine ⟨ab, ao, e1, g1 _ _ q1, ?_⟩
      have := g1 _ _ q2
      rwa [← Nat.add_assoc] at this
  have HW3 := hid_mk hw3
  obtain ⟨id0, tag0, par0, ka, kn, kc, aa, an, ac⟩ := s
  dsimp only at *
  subst han
  clear hnd hE hB2 hB23 hE3 hN3 hw3
  go_upto_region 2 with (fail)
  rw [← HW3.out]
  go_wp2
  go_loopw [21] (fun a21 wq => ∃ t : Nat, t ≤ el.us.length ∧ a21 = .int .i64 (t : Int) ∧ Hid (Below w3.heap.size w3 wq) ∧ Hid (∀ j (hj : j < el.us.length), j < t → (el.us[j].1 == nm) = false)) (fun a21 _ => el.us.length + 1 - (intOf a21).toNat)
  case atStart => exact ⟨0, Nat.zero_le _, rfl, hid_mk (Below.refl _ _), fun j _ h => absurd h (by omega)⟩
  case round =>
    obtain ⟨t, ht, rfl, HB, HNO⟩ := hrel
    by_cases htl : t < el.us.length
    · obtain ⟨ab, ao, rfl, q1, q2⟩ := HAC.out wr HB.out t htl
      have HB4 : Hid (Below w3.heap.size w3 (wr.alloc (.cells #[.string el.us[t].1, .string el.us[t].2] 128))) := HB.out.alloc HB.out.size _
      cases hq : (el.us[t].1 == nm) with
      | true =>
        have hq2 : (el.us[t].1.toList == nm.toList) = true := by rw [← beq_toListBytes]; exact hq
        have HV := hid_mk (valA_some htl hq HNO.out)
        generalize el.us[t].1 = x1 at *
        generalize el.us[t].2 = x2 at *
        have HF : Hid (Below w.heap.size w (wr.alloc (.cells #[.string x1, .string x2] 128))) := HB3.out.trans (HB4.out.mono HB3.out.size)
        clear HAC HNO n4
        go_wp2
        go_ret2
        exact ⟨ret2_val (by rw [HV.out]; rfl) (by rw [HV.out]; rfl), HF.out⟩
      | false =>
        have hq2 : (el.us[t].1.toList == nm.toList) = false := by rw [← beq_toListBytes]; exact hq
        have HN2 : Hid (∀ j (hj : j < el.us.length), j < t + 1 → (el.us[j].1 == nm) = false) := fun j hj hjt => by
          by_cases h1 : j < t
          · exact HNO.out j hj h1
          · obtain rfl : j = t := by omega
            exact hq
        generalize el.us[t].1 = x1 at *
        generalize el.us[t].2 = x2 at *
        clear HAC HNO n4
        go_wp2
        exact ⟨⟨t + 1, htl, by go_num, HB4, HN2⟩, by simp only [intOf]; omega⟩
    · have HV := hid_mk (valA_none (us := el.us) (nm := nm) fun j hj => HNO.out j hj (by omega))
      have HF : Hid (Below w.heap.size w wr) := HB3.out.trans (HB.out.mono HB3.out.size)
      clear HAC HNO n4
      go_wp2
      go_ret2
      exact ⟨ret2_val (by rw [HV.out]; rfl) (by rw [HV.out]; rfl), HF.out⟩

end Go.Proofs.YtdiljkmlneeboaaGreat.N
