/- For every slice of characters (every int32) the law TextSizes returns true: a character has one to four bytes, by its number, as many characters come back as went, and the examples are as the document says. No condition. -/
import Derived.Test.YtiopndnnjajpaabMath
import Derived.Test.YtiopndnnjajpaabLives
import Derived.ProofKit
import Derived.OpenShut
import Derived.ShutString
import Derived.ChangeOld
import Derived.SizedLaws
namespace Go.Proofs.Ytiopndnnjajpaab.textSizes
open Go.ChangeShapes Go.WideShapes Go.ChangeAt Go.RowKit
open Go.ChangeMaps (open_string shut_string)

theorem own : ownKnob Try.prog.godebug = none := by kernel_rfl
theorem laidOut : laidOutB Try.prog = true := by kernel_rfl

theorem len_three {r : Int} (h : r < 0 ∨ (2048 ≤ r ∧ r ≤ 65535) ∨ 1114111 < r) : (Lib.encodeRuneZ r).length = 3 := by
  rcases (show (r < 0 ∨ (55296 ≤ r ∧ r ≤ 57343) ∨ 1114111 < r) ∨ ((2048 ≤ r ∧ r < 55296) ∨ (57343 < r ∧ r ≤ 65535)) by omega) with g | g
  · rw [Lib.encodeRuneZ_bad g]; rfl
  · rw [Lib.encodeRuneZ_three g]; rfl

def fixZ (c : Int) : Int := if 0 ≤ c ∧ c ≤ 1114111 ∧ ¬ (55296 ≤ c ∧ c ≤ 57343) then c else 65533

theorem fix_char (c : Int) : IsChar (fixZ c) := by
  unfold fixZ IsChar
  split <;> omega

theorem fix_enc (c : Int) : Lib.encodeRuneZ (fixZ c) = Lib.encodeRuneZ c := by
  unfold fixZ
  split
  · rfl
  · rw [Lib.encodeRuneZ_bad (r := c) (by omega)]; decide

theorem bytes_fix (xs : List Int) : bytesZ (xs.map fixZ) = bytesZ xs := by
  induction xs with
  | nil => rfl
  | cons x r ih => rw [List.map_cons, bytesZ_cons, bytesZ_cons, ih, fix_enc]

theorem count_back (xs : List Int) : (chars (strOfNums (bytesZ xs))).length = xs.length := by
  have := chars_of_bytes (xs.map fixZ) (by
    intro c hc
    obtain ⟨x, _, rfl⟩ := List.mem_map.1 hc
    exact fix_char x)
  rw [bytes_fix] at this
  rw [this, List.length_map]

theorem walkBig (w : World) (a : Option Addr) (len cap : Nat) (h : 5000 < len) (hl : len ≤ 9223372036854775807) :
    Calls Try.prog 3 #[.slice a len cap] w fun e w' => e = .returned (.bool true) ∧ Below w.heap.size w w' := by
  go_enter Try.func3, Try.ntmps3
  go_wp2_with (go_at_call 4; refine (lives_any _).mono ?_; rintro e w' ⟨rfl, hbl⟩)
  go_ret
  exact ⟨rfl, hbl⟩

def Upto (xs : List Int) (n i : Value) : Prop := ∃ k : Nat, k ≤ xs.length ∧ i = .int .i64 k ∧ n = .int .i64 (bytesZ (xs.take k)).length

theorem step_to {xs : List Int} {k : Nat} {c : Int} {d : Nat} (hk : k < xs.length) (hc : xs.getD k 0 = c) (hd : (Lib.encodeRuneZ c).length = d) : (bytesZ (xs.take (k + 1))).length = (bytesZ (xs.take k)).length + d := by
  rw [bytesZ_take hk, hc, List.length_append, hd]

set_option maxHeartbeats 2000000 in
set_option maxRecDepth 1000000 in
theorem walkSmall (w : World) (a : Option Addr) (cap : Nat) (z : List Int) (hv : RowAt .i32 w (.slice a z.length cap) z) (hz : ∀ n ∈ z, (Lit.int .i32 n).wf = true) (h2 : z.length ≤ 5000) :
    Calls Try.prog 3 #[.slice a z.length cap] w fun e w' => e = .returned (.bool true) ∧ Below w.heap.size w w' := by
  have hc : 0 < z.length → ∃ b off, a = some ⟨b, off, none⟩ ∧ ∀ j, j < z.length → w.cell? ⟨b, off + j, none⟩ = some (.int .i32 (z.getD j 0)) := by
    obtain ⟨a', cap', e, _, hc⟩ := hv
    simp only [Value.slice.injEq] at e
    obtain ⟨rfl, _, _⟩ := e
    exact hc
  have HV : Hid (RowAt .i32 w (.slice a z.length cap) z) := hv
  have HZ : Hid (∀ n ∈ z, (Lit.int .i32 n).wf = true) := hz
  clear hv hz
  go_enter Try.func3, Try.ntmps3
  go_wp2
  go_loop [3, 14] (fun n i => Upto z n i) (fun _ i => z.length - (intOf i).toNat)
  case atStart => exact ⟨0, Nat.zero_le _, rfl, rfl⟩
  case round =>
    obtain ⟨k, hk, rfl, rfl⟩ := hrel
    have hle := bytesZ_len (z.take k)
    have hlt4 : (bytesZ (z.take k)).length ≤ 20000 := by simp at hle; omega
    clear hle
    by_cases hlt : k < z.length
    · obtain ⟨b, off, rfl, hcell⟩ := hc (by omega)
      obtain ⟨c, hck⟩ : ∃ c, z.getD k 0 = c := ⟨_, rfl⟩
      have c0 : w.cell? ⟨b, off + k, none⟩ = some (.int .i32 c) := by
        have := hcell k hlt
        rw [hck] at this
        exact this
      have HS : Hid (∀ d, (Lib.encodeRuneZ c).length = d → (bytesZ (z.take (k + 1))).length = (bytesZ (z.take k)).length + d) := fun d hd => step_to hlt hck hd
      clear hcell hck hc
      generalize (bytesZ (z.take k)).length = n at *
      rcases (show (0 ≤ c ∧ c ≤ 127) ∨ (128 ≤ c ∧ c ≤ 2047) ∨ c < 0 ∨ (2048 ≤ c ∧ c ≤ 65535) ∨ (65536 ≤ c ∧ c ≤ 1114111) ∨ 1114111 < c by omega) with ⟨g1, g2⟩ | ⟨g1, g2⟩ | g1 | ⟨g1, g2⟩ | ⟨g1, g2⟩ | g1
      · have HD : Hid ((bytesZ (z.take (k + 1))).length = n + 1) := HS.out 1 (by rw [Lib.encodeRuneZ_one g1 g2]; rfl)
        clear HS
        go_wp2
        exact ⟨⟨k + 1, by omega, by go_num, by rw [HD.out]; go_num⟩, by simp [intOf]; omega⟩
      · have HD : Hid ((bytesZ (z.take (k + 1))).length = n + 2) := HS.out 2 (by rw [Lib.encodeRuneZ_two g1 g2]; rfl)
        clear HS
        go_wp2
        exact ⟨⟨k + 1, by omega, by go_num, by rw [HD.out]; go_num⟩, by simp [intOf]; omega⟩
      · have HD : Hid ((bytesZ (z.take (k + 1))).length = n + 3) := HS.out 3 (len_three (by omega))
        clear HS
        go_wp2
        exact ⟨⟨k + 1, by omega, by go_num, by rw [HD.out]; go_num⟩, by simp [intOf]; omega⟩
      · have HD : Hid ((bytesZ (z.take (k + 1))).length = n + 3) := HS.out 3 (len_three (by omega))
        clear HS
        go_wp2
        exact ⟨⟨k + 1, by omega, by go_num, by rw [HD.out]; go_num⟩, by simp [intOf]; omega⟩
      · have HD : Hid ((bytesZ (z.take (k + 1))).length = n + 4) := HS.out 4 (by rw [Lib.encodeRuneZ_four g1 g2]; rfl)
        clear HS
        go_wp2
        exact ⟨⟨k + 1, by omega, by go_num, by rw [HD.out]; go_num⟩, by simp [intOf]; omega⟩
      · have HD : Hid ((bytesZ (z.take (k + 1))).length = n + 3) := HS.out 3 (len_three (by omega))
        clear HS
        go_wp2
        exact ⟨⟨k + 1, by omega, by go_num, by rw [HD.out]; go_num⟩, by simp [intOf]; omega⟩
    · have hkz : z.take k = z := List.take_of_length_le (by omega)
      rw [hkz] at hlt4 ⊢
      clear hc hkz
      go_wp2_with (go_at_call 5; fail)
      refine (bytes_any _ z _ (by omega) HV.out HZ.out).mono ?_
      rintro e w1 ⟨u, rfl, ho1, hb1⟩
      have r1 := RowAt.own ho1
      have hcv := conv_any (RowAt.bytes r1 (bytesZ_wf z))
      obtain ⟨a1, cap1, rfl, _, _⟩ := r1
      have hcb := count_back z
      obtain ⟨X, hX⟩ : ∃ X, strOfNums (bytesZ z) = X := ⟨_, rfl⟩
      have hXs : X.size ≤ 20000 := by rw [← hX, strOf_size]; exact hlt4
      rw [hX] at hcb hcv
      have HC : Hid ((chars X).length = z.length) := hcb
      clear hcb hX ho1 HV HZ
      go_wp2
      go_loopw [7] (fun m wr => ∃ pos left acc : Nat, wr.heap[w1.heap.size]? = some (.stringIter X pos) ∧ Below w1.heap.size w1 wr ∧ m = .int .i64 acc ∧ acc + (charsFrom X left pos).length = (chars X).length ∧ X.size ≤ pos + left ∧ acc ≤ pos) (fun _ wr => X.size - wr.iterPos w1.heap.size)
      case atStart => exact ⟨0, X.size, 0, World.iter_heap w1 X 0, Below.iter (Below.refl _ w1) (Nat.le_refl _) X 0, rfl, by simp [chars], by omega, Nat.le_refl _⟩
      case round =>
        obtain ⟨pos, left, acc, hit, hb, rfl, hcc, hl, ha⟩ := hrel
        by_cases hp : pos < X.size
        · have hnx := fun ty => Lib.run_next_any_at (P := Try.prog) wr w1.heap.size X pos ty hit hp
          have hwd := Lib.decode_width_pos X pos hp
          obtain ⟨f, rfl⟩ : ∃ f, left = f + 1 := ⟨left - 1, by omega⟩
          rw [charsFrom, if_pos hp, List.length_cons] at hcc
          have hit2 := Lib.iterAt_heap wr w1.heap.size X pos (pos + (Utf8.decode X pos).2) hit
          have hb2 := Lib.below_iterAt hb (k := w1.heap.size) (Nat.le_refl _) X (pos + (Utf8.decode X pos).2)
          have hm : X.size - (wr.iterAt w1.heap.size X (pos + (Utf8.decode X pos).2)).iterPos w1.heap.size < X.size - wr.iterPos w1.heap.size := by
            simp only [World.iterPos, hit2, hit]
            omega
          generalize (Utf8.decode X pos).2 = d at *
          generalize wr.iterAt w1.heap.size X (pos + d) = W at *
          have HCC : Hid (acc + ((charsFrom X f (pos + d)).length + 1) = (chars X).length) := hcc
          clear hcc hcv hb hit
          go_wp2
          go_roundw
          case rel => exact ⟨pos + d, f, acc + 1, hit2, hb2, by go_num, by have := HCC.out; omega, by omega, by omega⟩
          case measure => exact hm
        · have hnx := fun ty => Lib.run_next_end_at (P := Try.prog) wr w1.heap.size X pos ty hit hp
          rw [charsFrom_end X left pos hp, HC.out, List.length_nil, Nat.add_zero] at hcc
          have e1 : ((acc : Int) == (z.length : Int)) = true := beq_iff_eq.2 (by omega)
          clear hcc hcv HC
          go_wp2_with (go_at_call 4; refine (lives_any _).mono ?_; rintro e w5 ⟨rfl, hb5⟩)
          go_ret
          have B2 : Below w.heap.size w wr := hb1.trans (hb.mono hb1.size)
          exact ⟨rfl, B2.trans (hb5.mono B2.size)⟩

theorem walk (w : World) (a : Option Addr) (len cap : Nat) (z : List Int) (hv : RowAt .i32 w (.slice a len cap) z) (hz : ∀ n ∈ z, (Lit.int .i32 n).wf = true) (hl : z.length ≤ maxLen) (_hn : a = none → cap = 0) :
    Calls Try.prog 3 #[.slice a len cap] w fun e w' => e = .returned (.bool true) ∧ Below w.heap.size w w' := by
  unfold maxLen at hl
  obtain rfl : len = z.length := by
    obtain ⟨a', cap', e, _⟩ := hv
    simp only [Value.slice.injEq] at e
    exact e.2.1
  by_cases h : 5000 < z.length
  · exact walkBig w a z.length cap h hl
  · exact walkSmall w a cap z hv hz (by omega)

set_option maxRecDepth 100000 in
theorem lifted (os : Os) (started : os.Started) (H : Type) (enc : TypeId × Value → H) :
    ReturnsInHanded {} Try.checked os 3 .any (Rows.textSizesSpec.pre6 enc Try.prog Try.f3 Rows.textSizesRow.domain false) (Rows.textSizesSpec.post enc Try.prog Try.f3 false true false false) := by
  refine returnsInHanded_of_change (C := Try.checked) own started (by kernel_rfl) Try.func3
    (ChangeSpec.witness6 (enc := enc) (C := Try.checked) false ⟨#[], #[.slice none 0 0], []⟩ 8 (by kernel_rfl) (by kernel_rfl) (by kernel_rfl) (by kernel_rfl)) ?_
  intro W base args ds gs before hval0 hW hcnd _
  have hval : ∀ (j : Nat) t v, Try.f3.params[j]? = some t → args[j]? = some v → Value.okWide Try.prog W .any base t v := hval0
  have hW' := hW
  obtain ⟨p, q, hA0, hV, rfl, hfz, hnd⟩ := hW
  have hA : DataW.TrodAll enc Try.prog W 0 (fun _ => true) true Try.f3.params.toList args.toList ds p := hA0
  rw [Try.params3] at hA hval
  obtain ⟨v0, vs0, d0, ds0, p0, q0, hargs, rfl, rfl, h0, r0⟩ := trodAll_cons hA
  obtain ⟨rfl, rfl, rfl⟩ := trodAll_nil r0
  obtain rfl : args = #[v0] := by cases args; simp_all
  obtain ⟨rfl, rfl⟩ := trodVars_none hV
  obtain ⟨a0, len0, cap0, rfl⟩ := okWide_slice Try.underlying22 (hval 0 22 v0 rfl rfl)
  have k0 := h0
  have lt0 : ∀ x ∈ p0, x.block < W.heap.size := by obtain ⟨m, hm⟩ := k0; exact DataW.trod_lt m _ _ _ hm
  obtain ⟨z0, w0, b0, m0, n0⟩ : ∃ zs : List Int, RowAt .i32 W (.slice a0 len0 cap0) zs ∧ (∀ n ∈ zs, (Lit.int .i32 n).wf = true) ∧ zs.length ≤ maxLen ∧ (a0 = none → cap0 = 0) := by
    obtain ⟨fuel, hf⟩ := h0
    rcases open_ints Try.underlying22 Try.underlying21 (by kernel_rfl) hf with ⟨hcs, _⟩ | ⟨x, l, c, zs, hcs, _, hl, hm, hz, _, hcell, hwz⟩
    · simp [Value.cells] at hcs
      obtain ⟨rfl, rfl, rfl⟩ := hcs
      exact ⟨[], ⟨none, 0, rfl, Nat.le_refl _, fun h => absurd h (by simp)⟩, by simp, by simp, fun _ => rfl⟩
    · simp [Value.cells] at hcs
      obtain ⟨rfl, rfl, rfl⟩ := hcs
      exact ⟨_, RowAt.arg hl (by simpa using hz) hcell, fun n hn => hwz n (List.mem_of_mem_take hn), by simp; omega, fun h => by cases h⟩
  clear hA0 hval0
  refine (walk W a0 len0 cap0 z0 w0 b0 m0 n0).mono fun e W' ⟨he, bel⟩ => ?_
  subst he
  exact ⟨_, rfl, _, _, _, [], _, [], hW', trodAll_mk1 (shut_bool Try.underlying4 _), (trodAll_cons_mk (Below.trod laidOut (by kernel_rfl) (of_decide_eq_true (by kernel_rfl)) k0 bel lt0) trodAll_mk0), rfl, bel.frame _, fun h => by cases h⟩

theorem over : Rows.textSizesRow.holds Try.pinned (OpenSpec.ofChange Rows.textSizesSpec) :=
  OpenClaim.holds_of_wide 3 Try.f3 rfl rfl rfl rfl rfl rfl rfl ⟨rfl, rfl, rfl, rfl, rfl⟩ rfl rfl rfl rfl rfl (by kernel_rfl) Try.func3 (by kernel_rfl)
    (of_decide_eq_true (by kernel_rfl)) (by unfold Func.isWrapper; first | (rw [if_pos (by decide +kernel)]; kernel_rfl) | (rw [if_neg (by decide +kernel)]; exact ⟨rfl, rfl⟩))
    (fun os started H enc _ => lifted os started H enc)

end Go.Proofs.Ytiopndnnjajpaab.textSizes
namespace Go.Proofs.Ytiopndnnjajpaab
theorem textSizes_holds : Rows.TextSizesSaid := textSizes.over
#print axioms textSizes_holds
end Go.Proofs.Ytiopndnnjajpaab
