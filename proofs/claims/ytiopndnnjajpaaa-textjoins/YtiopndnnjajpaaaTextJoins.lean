/- For every two strings the law TextJoins returns true: a text that was told once, with another behind it, has the characters of the one and of the other, and the examples are as the document says. No condition. -/
import Derived.Test.YtiopndnnjajpaaaJoins
import Derived.Test.YtiopndnnjajpaaaRefRunes
import Derived.Test.YtiopndnnjajpaaaFold
import Derived.Laws.Concat
import Derived.ProofKit
import Derived.OpenShut
import Derived.ShutString
import Derived.ChangeOld
import Derived.SizedLaws
namespace Go.Proofs.Ytiopndnnjajpaaa.textJoins
open Go.ChangeShapes Go.WideShapes Go.ChangeAt Go.RowKit
open Go.ChangeMaps (open_string shut_string)

theorem own : ownKnob Try.prog.godebug = none := by kernel_rfl

theorem runes_le (s : ByteArray) : (runesZ s).length ≤ s.size := by
  have h1 := chars_le s
  have h2 : ∀ (l : List Int) (c : Int), (normZ c l).length ≤ l.length := by
    intro l
    induction l with
    | nil => intro c; simp [normZ]
    | cons x r ih =>
      intro c
      have := ih x
      unfold normZ
      split
      · simp only [List.length_cons]; omega
      · simp only [List.length_cons]; omega
  exact Nat.le_trans (h2 _ 0) h1

theorem told_wf {xs : List Int} (h : ∀ c ∈ xs, Told c) : ∀ n ∈ xs, (Lit.int .i32 n).wf = true := by
  intro n hn
  have := (h n hn).1
  unfold IsChar at this
  simp [Lit.wf, IntKind.min, IntKind.max, IntKind.signed, IntKind.bits]
  omega

theorem walkBig (w : World) (a b : ByteArray) (ha : a.size ≤ 140737488351232) (hb : b.size ≤ 140737488351232) (h : 20000 < a.size + b.size) :
    Calls Try.prog 8 #[.string a, .string b] w fun e w' => e = .returned (.bool true) ∧ Below w.heap.size w w' := by
  go_enter Try.func8, Try.ntmps8
  go_wp2_with (go_at_call 9; refine (lives_any _).mono ?_; rintro e w' ⟨rfl, hbl⟩)
  go_ret
  exact ⟨rfl, hbl⟩

/-- The bytes of a string that was converted. -/
theorem at_row {W : World} {g cap : Nat} {mk : Nat × Nat} {s : ByteArray} (hg : W.heap[g]? = some (.cells (bytesRow s cap) 5 mk)) (hc : s.size ≤ cap) : BytesAt W (.slice (some ⟨g, 0, none⟩) s.size cap) s := by
  refine ⟨_, _, rfl, hc, fun _ => ⟨g, 0, rfl, fun j hj => ?_⟩⟩
  have hd : j < s.data.size := hj
  have hgs : s.get! j = s.data[j] := by
    cases s with
    | mk d => exact getElem!_pos d j hd
  have e : (bytesRow s cap)[j]? = some (.int .u8 (s.get! j).toNat) := by
    rw [hgs]
    unfold bytesRow
    rw [Array.getElem?_append_left (by simpa using hd), Array.getElem?_map, Array.getElem?_eq_getElem hd]
    rfl
  simp only [World.cell?, hg, Nat.zero_add]
  exact e

theorem own_form {w : World} {B : Nat} {e : TypeId} {v : Value} {n : Nat} {xs : List Value} (h : w.ownsRow B e 1 v n xs) (hne : v ≠ .slice none 0 0) : ∃ g cap, v = .slice (some ⟨g, 0, none⟩) n cap := by
  rcases h.2 with ⟨hn, _⟩ | ⟨g, cap, cur, hv, _⟩
  · exact absurd hn hne
  · exact ⟨g, cap, hv⟩

theorem news_row {w : World} {ad : Addr} {len cap : Nat} {z : List Int} (h : RowAt .i32 w (.slice (some ad) len cap) z) : ∀ (j : Nat) u, (z.map (Value.int .i32))[j]? = some u → w.cell? (ad.add j) = some u := by
  intro j u hj
  have hj' : j < z.length := by
    have := (List.getElem?_eq_some_iff.1 hj).1
    simpa using this
  obtain ⟨a', cap', e, _, hc⟩ := h
  simp only [Value.slice.injEq] at e
  obtain ⟨rfl, rfl, rfl⟩ := e
  obtain ⟨b, off, e2, hcell⟩ := hc (by omega)
  cases e2
  have e3 : (⟨b, off, none⟩ : Addr).add j = ⟨b, off + j, none⟩ := by unfold Addr.add; split <;> simp_all
  rw [e3, hcell j hj']
  simp [hj'] at hj
  rw [← hj]
  simp [List.getD, hj']

set_option maxHeartbeats 2000000 in
set_option maxRecDepth 1000000 in
theorem walkSmall (w : World) (a b : ByteArray) (h : a.size + b.size ≤ 20000) :
    Calls Try.prog 8 #[.string a, .string b] w fun e w' => e = .returned (.bool true) ∧ Below w.heap.size w w' := by
  obtain ⟨i0, hi, hz0, hz1, hz2⟩ := info_parts Try.info21
  have kc := fun (w : World) (s : ByteArray) => run_bytes_of_string (P := Try.prog) w 9 22 5 s Try.underlying9 Try.underlying22 Try.underlying5
  have hla := runes_le a
  have hlb := runes_le b
  have hta := runes_told a
  go_enter Try.func8, Try.ntmps8
  go_wp2_with (go_at_call 11; fail)
  refine (runes_some _ a _ (by omega) ?_).mono ?_
  · exact at_row (heap_alloc_new w _) (grownCap_ge w a.size 0 5)
  rintro e w1 ⟨u1, rfl, ho1, hb1, _⟩
  obtain ⟨xs, hxs⟩ : ∃ xs, runesZ a = xs := ⟨_, rfl⟩
  rw [hxs] at hla hta ho1
  have HW := told_wf hta
  have HA := runes_again hta
  have HJ := joins hta b
  have hbz := bytesZ_len xs
  have hsX := strOf_size (bytesZ xs)
  have r1 := RowAt.own ho1
  have B1 : Below w.heap.size w w1 := (((Below.refl _ w).alloc (Nat.le_refl _) _).drew).trans (hb1.mono (by simp))
  clear ho1 hb1 hxs hta
  go_wp2_with (go_at_call 13; fail)
  refine (bytes_any _ xs _ (by omega) r1 HW).mono ?_
  rintro e w2 ⟨u2, rfl, ho2, hb2⟩
  have hc2 := conv_any (RowAt.bytes (RowAt.own ho2) (bytesZ_wf xs))
  have B2 : Below w.heap.size w w2 := B1.trans (hb2.mono B1.size)
  clear ho2 hb2 r1 HW B1
  obtain ⟨X, hX⟩ : ∃ X, strOfNums (bytesZ xs) = X := ⟨_, rfl⟩
  rw [hX] at HA HJ hc2 hsX
  have hX2 : X.size ≤ 80000 := by omega
  clear hX hsX hbz
  go_wp2_with (go_at_call 11; fail)
  refine (runes_some _ X _ (by omega) ?_).mono ?_
  · exact at_row (heap_alloc_new w2 _) (grownCap_ge w2 X.size 0 5)
  rintro e w3 ⟨u3, rfl, ho3, hb3, hn3⟩
  rw [HA] at ho3
  have r3 := RowAt.own ho3
  have B3 : Below w.heap.size w w3 := ((B2.alloc B2.size _).drew).trans (hb3.mono (by have := B2.size; simp; omega))
  clear hb3 hc2 B2 HA
  go_wp2_with (go_at_call 11; fail)
  refine (runes_some _ b _ (by omega) ?_).mono ?_
  · exact at_row (heap_alloc_new w3 _) (grownCap_ge w3 b.size 0 5)
  rintro e w4 ⟨u4, rfl, ho4, hb4, hn4⟩
  obtain ⟨ys, hys⟩ : ∃ ys, runesZ b = ys := ⟨_, rfl⟩
  rw [hys] at hlb ho4 HJ
  have r4 := RowAt.own ho4
  have C4 : Below w3.heap.size w3 w4 := (((Below.refl _ w3).alloc (Nat.le_refl _) _).drew).trans (hb4.mono (by simp))
  have B4 : Below w.heap.size w w4 := B3.trans (C4.mono B3.size)
  have q3 := r3.below C4
  obtain ⟨g3, cap3, rfl⟩ := own_form ho3 hn3
  obtain ⟨g4, cap4, rfl⟩ := own_form ho4 hn4
  clear hb4 r3 ho3 ho4 hn3 hn4 B3 C4 hys
  have hadd : ∀ w, (Op.stringOp .add X b).run Try.prog w = .ok (.string (X ++ b)) w := fun w => run_string_add_sum w X b (by omega)
  obtain ⟨Y, hY⟩ : ∃ Y, X ++ b = Y := ⟨_, rfl⟩
  have hYs : Y.size ≤ 100000 := by rw [← hY, ByteArray.size_append]; omega
  rw [hY] at HJ hadd
  clear hY
  go_wp2_with (go_at_call 11; fail)
  refine (runes_some _ Y _ (by omega) ?_).mono ?_
  · exact at_row (heap_alloc_new w4 _) (grownCap_ge w4 Y.size 0 5)
  rintro e w5 ⟨u5, rfl, ho5, hb5, _⟩
  rw [HJ] at ho5
  have r5 := RowAt.own ho5
  have C5 : Below w4.heap.size w4 w5 := (((Below.refl _ w4).alloc (Nat.le_refl _) _).drew).trans (hb5.mono (by simp))
  have B5 : Below w.heap.size w w5 := B4.trans (C5.mono B4.size)
  have p3 := q3.below C5
  have p4 := r4.below C5
  clear hb5 ho5 C5 B4 q3 r4 hadd HJ
  have hown0 : (w5.alloc (.cells #[] 21)).ownsRow w5.heap.size 21 1 (.slice (some ⟨w5.heap.size, 0, none⟩) 0 0) 0 [] := World.ownsRow_made w5 #[] 0 (Nat.le_refl _) (by decide) rfl
  have hB0 : Below w5.heap.size w5 (w5.alloc (.cells #[] 21)) := (Below.refl _ w5).alloc (Nat.le_refl _) _
  have n3 := news_row (p3.below hB0)
  go_wp2_with (first
    | (at_builtin; refine wpList_append_own _ rfl (.tmp 31) (.tmp 32) 25 rfl w5.heap.size 21 i0 (.int .i32 0) 1 4 Try.underlying25 hi hz0 hz1 hz2 rfl (by decide) _ _ _ rfl hown0 ⟨g3, 0, none⟩ xs.length cap3 (xs.map (Value.int .i32)) rfl (by simp) n3 (ints_oneCell .i32 xs) (by unfold maxLen; omega) (by omega) (by simp) ?_; intro v6 w6 hown6 hgrow6 _; simp only [Nat.zero_add, List.nil_append] at hown6; have C6 := hB0.grown hgrow6 (by simp) (fun k hk => (hown0.lt k hk).1); have n4 := news_row (p4.below C6); clear hgrow6)
    | (at_builtin; refine wpList_append_own _ rfl (.tmp 33) (.tmp 34) 25 rfl w5.heap.size 21 i0 (.int .i32 0) 1 4 Try.underlying25 hi hz0 hz1 hz2 rfl (by decide) _ _ _ rfl hown6 ⟨g4, 0, none⟩ ys.length cap4 (ys.map (Value.int .i32)) rfl (by simp) n4 (ints_oneCell .i32 ys) (by unfold maxLen; omega) (by omega) C6.size ?_; intro v7 w7 hown7 hgrow7 _; have C7 := C6.grown hgrow7 C6.size (fun k hk => (hown6.lt k hk).1); have r7 : RowAt .i32 w7 v7 (xs ++ ys) := RowAt.own (by simpa using hown7); have s7 := r5.below C7; clear hgrow7 hown7)
    | (go_at_call 10; refine (same_yes s7 r7 (by simp; omega)).mono ?_; rintro e w8 ⟨rfl, hb8⟩)
    | (go_at_call 9; refine (lives_any _).mono ?_; rintro e w9 ⟨rfl, hb9⟩))
  go_ret
  have B7 : Below w.heap.size w w7 := B5.trans (C7.mono B5.size)
  exact ⟨rfl, (B7.trans (hb8.mono B7.size)).trans (hb9.mono (Nat.le_trans B7.size hb8.size))⟩

theorem walk (w : World) (a : ByteArray) (ha : a.size ≤ 140737488351232) (b : ByteArray) (hb : b.size ≤ 140737488351232) :
    Calls Try.prog 8 #[.string a, .string b] w fun e w' => e = .returned (.bool true) ∧ Below w.heap.size w w' := by
  by_cases h : 20000 < a.size + b.size
  · exact walkBig w a b ha hb h
  · exact walkSmall w a b (by omega)

set_option maxRecDepth 100000 in
theorem lifted (os : Os) (started : os.Started) (H : Type) (enc : TypeId × Value → H) :
    ReturnsInHanded {} Try.checked os 8 .any (Rows.textJoinsSpec.pre6 enc Try.prog Try.f8 Rows.textJoinsRow.domain false) (Rows.textJoinsSpec.post enc Try.prog Try.f8 false true false false) := by
  refine returnsInHanded_of_change_sized (C := Try.checked) own started (by kernel_rfl) Try.func8
    (ChangeSpec.witness6 (enc := enc) (C := Try.checked) false ⟨#[], #[.string ByteArray.empty, .string ByteArray.empty], []⟩ 8 (by kernel_rfl) (by kernel_rfl) (by kernel_rfl) (by kernel_rfl)) ?_
  intro W base args ds gs before hval0 hW hcnd hsz0 _
  have hval : ∀ (j : Nat) t v, Try.f8.params[j]? = some t → args[j]? = some v → Value.okWide Try.prog W .any base t v := hval0
  have hsz : (DataW.weightsEach Try.prog (Try.f8.params.toList ++ Rows.textJoinsSpec.plain.varTypes Try.prog) (ds ++ gs)).all (· ≤ reachBytes) = true := hsz0
  have hW' := hW
  obtain ⟨p, q, hA0, hV, rfl, hfz, hnd⟩ := hW
  have hA : DataW.TrodAll enc Try.prog W 0 (fun _ => true) true Try.f8.params.toList args.toList ds p := hA0
  rw [Try.params8] at hA hval hsz
  obtain ⟨v0, vs0, d0, ds0, p0, q0, hargs, rfl, rfl, h0, r0⟩ := trodAll_cons hA
  obtain ⟨v1, vs1, d1, ds1, p1, q1, rfl, rfl, rfl, h1, r1⟩ := trodAll_cons r0
  obtain ⟨rfl, rfl, rfl⟩ := trodAll_nil r1
  obtain rfl : args = #[v0, v1] := by cases args; simp_all
  obtain ⟨rfl, rfl⟩ := trodVars_none hV
  obtain ⟨a0, rfl, rfl, rfl, w0⟩ := open_string Try.underlying9 (hval 0 9 v0 rfl rfl) h0
  obtain ⟨a1, rfl, rfl, rfl, w1⟩ := open_string Try.underlying9 (hval 1 9 v1 rfl rfl) h1
  have s0 : a0.size ≤ 140737488351232 := sized_string hsz (j := 0) (t := 9) rfl rfl
  have s1 : a1.size ≤ 140737488351232 := sized_string hsz (j := 1) (t := 9) rfl rfl
  clear hA0 hval0 hsz hsz0
  refine (walk W a0 s0 a1 s1).mono fun e W' ⟨he, bel⟩ => ?_
  subst he
  exact ⟨_, rfl, _, _, _, [], _, [], hW', trodAll_mk1 (shut_bool Try.underlying4 _), (trodAll_cons_mk (shut_string Try.underlying9 w0) (trodAll_cons_mk (shut_string Try.underlying9 w1) trodAll_mk0)), rfl, bel.frame _, fun h => by cases h⟩

theorem over : Rows.textJoinsRow.holds Try.pinned (OpenSpec.ofChange Rows.textJoinsSpec) :=
  OpenClaim.holds_of_wide 8 Try.f8 rfl rfl rfl rfl rfl rfl rfl ⟨rfl, rfl, rfl, rfl, rfl⟩ rfl rfl rfl rfl rfl (by kernel_rfl) Try.func8 (by kernel_rfl)
    (of_decide_eq_true (by kernel_rfl)) (by unfold Func.isWrapper; first | (rw [if_pos (by decide +kernel)]; kernel_rfl) | (rw [if_neg (by decide +kernel)]; exact ⟨rfl, rfl⟩))
    (fun os started H enc _ => lifted os started H enc)

end Go.Proofs.Ytiopndnnjajpaaa.textJoins
namespace Go.Proofs.Ytiopndnnjajpaaa
theorem textJoins_holds : Rows.TextJoinsSaid := textJoins.over
#print axioms textJoins_holds
end Go.Proofs.Ytiopndnnjajpaaa
