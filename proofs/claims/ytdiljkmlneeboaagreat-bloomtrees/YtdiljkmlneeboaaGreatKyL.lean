/- SetAttr and DropAttr that go well; Attr. DomWords: what stands between blanks, by bytes. dom.Words, and the document's. Keys of an element: what the closures do that are told them. Keys of an element: which they are. bloom.wears tells the keys of an element's names. bloom.Keys of an element. The document's Keys of an element. The filter of all above an element. Names of elements are short. BloomTrees: the walk. -/
import Derived.Test.YtdiljkmlneeboaaGreatSatO
import Derived.Test.YtdiljkmlneeboaaGreatLivN
import Derived.Lib.FieldsP
import Derived.Lib.MapLaws
import Derived.Test.YtdiljkmlneeboaaGreatUndN
import Derived.Shelf.Strings.FieldsFuncAny
import Derived.Shelf.Lay
import Derived.Ground.NamesProg
import Derived.Test.YtdiljkmlneeboaaGreatBNef
import Derived.Test.YtdiljkmlneeboaaGreatBLiv
import Derived.Test.YtdiljkmlneeboaaGreatBSo14
import Derived.Test.YtdiljkmlneeboaaGreatRfB
import Derived.Test.YtdiljkmlneeboaaGreatWnW
import Derived.Test.YtdiljkmlneeboaaGreatTreN
namespace Go.Proofs.YtdiljkmlneeboaaGreat.N
open Go.RowKit
set_option maxRecDepth 100000

variable {m : M} {nx : Int} {d : Int → Nat}
set_option maxHeartbeats 2000000 in
theorem tree_attr {w : World} {dp : Value} (h : Tree w dp m nx) (id : Int) (nm : ByteArray) : Calls Tryz.prog 72 #[dp, .int .i64 id, .string nm] w fun x w' => x = .returned (.tuple #[.string ((attrZ m id nm).getD ⟨#[]⟩), .bool (attrZ m id nm).isSome]) ∧ Below w.heap.size w w' := by
  obtain ⟨hD, d, I⟩ := h
  have hf := dom_find_any hD id
  obtain ⟨b, tp, rfl, _⟩ := hD
  have hu : uOk ((m id).getD zeroEl).us := by
    cases he : m id with
    | none => exact uOk_nil
    | some e => exact I.us he
  have hat : attrZ m id nm = valA ((m id).getD zeroEl).us nm := by
    unfold attrZ
    cases m id <;> rfl
  rw [hat]
  generalize (m id).getD zeroEl = e at *
  clear hat I
  go_enter Tryz.func72, Tryz.ntmps72
  go_wp2_with (go_at_call 54; fail)
  refine hf.mono ?_
  rintro x w1 ⟨s, err, rfl, _, hE, hB1⟩
  obtain ⟨W1, hW1⟩ : ∃ W1, W1 = w1.alloc (.cells #[.int .i64 s.id, .string s.tag, .int .i64 s.par, .slice s.ka s.kn s.kc, .slice s.aa s.an s.ac] 76) := ⟨_, rfl⟩
  have hBW : Below w.heap.size w W1 := by rw [hW1]; exact hB1.alloc hB1.size _
  have hN1 : NodeAt W1 w1.heap.size s := by rw [hW1]; exact heap_alloc_last w1 _
  have hE1 := hE.keep hBW
  have hpl := place_any hE1.2.2.2.2 hu.srt hu.len nm
  obtain ⟨_, _, _, _, _, _, hl1⟩ := hN1.cells
  have HN1 := hid_mk hN1
  have HBW := hid_mk hBW
  have HW1 := hid_mk hW1
  have HE1 := hid_mk hE1
  have HU := hid_mk hu
  clear hf hB1 hE hW1 hN1 hBW hu hE1
  cases hv : valA e.us nm with
  | none =>
    rw [hv] at hpl
    have HV := hid_mk hv
    clear hv
    generalize (loA e.us nm).length = L at *
    go_wp2_with (go_at_call 60; fail)
    rw [← HW1.out]
    refine hpl.mono ?_
    rintro x w2 ⟨rfl, hB2⟩
    have HB2 : Hid (Below w.heap.size w w2) := HBW.out.trans (hB2.mono HBW.out.size)
    clear hpl hB2 HW1
    go_wp2
    refine bodyPost_ret (v := .tuple #[.string ⟨#[]⟩, .bool false]) (by simp [results, Tryz.results72, go_sem]) rfl ⟨by rw [HV.out]; rfl, HB2.out⟩
  | some val =>
    obtain ⟨hL, hel⟩ := (srt_at (nm := nm) HU.out.srt).1 val hv
    have hul := HU.out.len
    have han := HE1.out.an
    rw [hv] at hpl
    have HC : Hid (∀ W, Below W1.heap.size W1 W → ∃ ab ao, s.aa = some ⟨ab, ao, none⟩ ∧ W.cell? ⟨ab, ao + (loA e.us nm).length * 2 + 1, none⟩ = some (.string val)) := fun W hW => by
      rcases (HE1.out.keep hW).2.2.2.2.2.2.2.2 with ⟨h0, h00⟩ | ⟨ab, ao, e1, l1, g1⟩
      · have := HE1.out.2.2.2.2.2.1
        omega
      · have := g1 _ _ (attrsV_at hL).2
        rw [hel, ← Nat.add_assoc] at this
        exact ⟨ab, ao, e1, this⟩
    have hcap := HE1.out.2.2.2.2.2.1
    rw [← han] at hL hul
    generalize (loA e.us nm).length = L at *
    have HV := hid_mk hv
    clear hv hel han HE1
    obtain ⟨id0, tag0, par0, ka, kn, kc, aa, an, ac⟩ := s
    dsimp only at *
    go_wp2_with (go_at_call 60; fail)
    rw [← HW1.out]
    refine hpl.mono ?_
    rintro x w2 ⟨rfl, hB2⟩
    have HB2 : Hid (Below w.heap.size w w2) := HBW.out.trans (hB2.mono HBW.out.size)
    have hN2 : NodeAt w2 w1.heap.size ⟨id0, tag0, par0, ka, kn, kc, aa, an, ac⟩ := (hB2.block _ hl1).trans HN1.out
    obtain ⟨⟨_, _, _, _, n4⟩, _⟩ := hN2.cells
    dsimp only at n4
    obtain ⟨ab, ao, rfl, hcv⟩ := HC.out w2 hB2
    clear hpl hB2 HW1 hN2 HN1 HC
    go_wp2
    refine bodyPost_ret (v := .tuple #[.string val, .bool true]) (by simp [results, Tryz.results72, go_sem]) rfl ⟨by rw [HV.out]; rfl, HB2.out⟩

end Go.Proofs.YtdiljkmlneeboaaGreat.N
namespace Go.Proofs.YtdiljkmlneeboaaGreat.N
open Go.RowKit
set_option maxRecDepth 100000

def blankN (x : Nat) : Bool := x == 32 || x == 9 || x == 10
/-- One byte on: where the word began that is open, and the words that are whole. -/
def stepB (s : ByteArray) (n : Nat) (c : Option Nat × List (Nat × Nat)) : Option Nat × List (Nat × Nat) :=
  if blankN (s.get! n).toNat = true then (none, match c.1 with
    | some a => c.2 ++ [(a, n)]
    | none => c.2)
  else (some (c.1.getD n), c.2)
def runB (s : ByteArray) : Nat → Option Nat × List (Nat × Nat)
  | 0 => (none, [])
  | n + 1 => stepB s n (runB s n)
theorem runB_lt (s : ByteArray) : ∀ n, (∀ a, (runB s n).1 = some a → a < n) ∧ (runB s n).2.length ≤ n
  | 0 => ⟨(fun a h => by cases h), Nat.le_refl _⟩
  | n + 1 => by
    obtain ⟨h1, h2⟩ := runB_lt s n
    rw [runB, stepB]
    split
    · refine ⟨(fun a h => by cases h), ?_⟩
      dsimp only
      split
      · rw [List.length_append]; simp; omega
      · omega
    · refine ⟨fun a h => ?_, by dsimp only; omega⟩
      dsimp only at h
      cases e : (runB s n).1 with
      | none => rw [e] at h; cases h; exact Nat.lt_succ_self _
      | some b =>
        rw [e] at h
        cases h
        have := h1 _ e
        exact Nat.lt_succ_of_lt this
theorem runB_skip (s : ByteArray) (pos : Nat) : ∀ k, 0 < k → (∀ j, j < k → blankN (s.get! (pos + j)).toNat = false) → runB s (pos + k) = (some ((runB s pos).1.getD pos), (runB s pos).2)
  | 0, h, _ => by omega
  | 1, _, h => by
    have := h 0 (by omega)
    rw [Nat.add_zero] at this
    rw [runB, stepB, this]
    simp
  | k + 2, _, h => by
    rw [show pos + (k + 2) = pos + (k + 1) + 1 by omega, runB, runB_skip s pos (k + 1) (by omega) (fun j hj => h j (by omega)), stepB]
    have := h (k + 1) (by omega)
    rw [this]
    simp
theorem blank_big {x : Nat} (h : 128 ≤ x) : blankN x = false := by
  simp only [blankN, Bool.or_eq_false_iff, beq_eq_false_iff_ne, ne_eq]
  omega
/-- A character on is so many bytes on, none a blank unless it is one. -/
theorem dec_step (s : ByteArray) (pos : Nat) (h : pos < s.size) : ((Utf8.decode s pos).2 = 1 ∧ blankN (Utf8.decode s pos).1 = blankN (s.get! pos).toNat) ∨ (1 ≤ (Utf8.decode s pos).2 ∧ pos + (Utf8.decode s pos).2 ≤ s.size ∧ blankN (Utf8.decode s pos).1 = false ∧ ∀ j, j < (Utf8.decode s pos).2 → blankN (s.get! (pos + j)).toNat = false) := by
  rw [Lib.decode_at]
  have hb : ∀ x : UInt8, x.toNat < 256 := fun x => x.toNat_lt
  rcases Lib.decodeN_shape (s.size - pos) (s.get! pos).toNat (s.get! (pos + 1)).toNat (s.get! (pos + 2)).toNat (s.get! (pos + 3)).toNat with ⟨_, e⟩ | ⟨h1, h2, h3, h4, e⟩ | ⟨h1, h2, h3, h4, h5, _, e⟩ | ⟨h1, h2, h3, h4, h5, h6, _, e⟩ | e
  · rw [e]
    exact .inl ⟨rfl, rfl⟩
  · rw [e]
    refine .inr ⟨by dsimp only; omega, by dsimp only; omega, blank_big h4, fun j hj => blank_big ?_⟩
    dsimp only at hj
    have : j = 0 ∨ j = 1 := by omega
    rcases this with rfl | rfl
    · rw [Nat.add_zero]; omega
    · omega
  · rw [e]
    refine .inr ⟨by dsimp only; omega, by dsimp only; omega, blank_big (by dsimp only; omega), fun j hj => blank_big ?_⟩
    dsimp only at hj
    have : j = 0 ∨ j = 1 ∨ j = 2 := by omega
    rcases this with rfl | rfl | rfl
    · rw [Nat.add_zero]; omega
    · omega
    · omega
  · rw [e]
    refine .inr ⟨by dsimp only; omega, by dsimp only; omega, blank_big (by dsimp only; omega), fun j hj => blank_big ?_⟩
    dsimp only at hj
    have : j = 0 ∨ j = 1 ∨ j = 2 ∨ j = 3 := by omega
    rcases this with rfl | rfl | rfl | rfl
    · rw [Nat.add_zero]; omega
    · omega
    · omega
    · omega
  · by_cases hlt : (s.get! pos).toNat < 128
    · have e2 : Lib.decodeN (s.size - pos) (s.get! pos).toNat (s.get! (pos + 1)).toNat (s.get! (pos + 2)).toNat (s.get! (pos + 3)).toNat = ((s.get! pos).toNat, 1) := by
        unfold Lib.decodeN
        rw [if_pos hlt]
      rw [e2]
      exact .inl ⟨rfl, rfl⟩
    · rw [e]
      refine .inl ⟨rfl, ?_⟩
      rw [blank_big (by omega : 128 ≤ (s.get! pos).toNat)]
      rfl
theorem spans_runB (s : ByteArray) : ∀ f pos, pos ≤ s.size → s.size ≤ pos + f → Lib.spansFromP blankN s f pos (runB s pos).1 (runB s pos).2 = ((runB s s.size).2, (runB s s.size).1)
  | 0, pos, h1, h2 => by
    obtain rfl : pos = s.size := by omega
    rfl
  | f + 1, pos, h1, h2 => by
    by_cases hlt : pos < s.size
    · unfold Lib.spansFromP
      rw [if_pos hlt]
      rcases dec_step s pos hlt with ⟨hw, hb⟩ | ⟨hw1, hw2, hb, hn⟩
      · rw [hw, hb]
        have ih := spans_runB s f (pos + 1) (by omega) (by omega)
        rw [runB, stepB] at ih
        cases hx : blankN (s.get! pos).toNat with
        | true =>
          rw [hx, if_pos rfl] at ih
          rw [if_pos rfl]
          cases e : (runB s pos).1 with
          | none => rw [e] at ih; exact ih
          | some a => rw [e] at ih; exact ih
        | false =>
          rw [hx, if_neg (by simp)] at ih
          rw [if_neg (by simp)]
          cases e : (runB s pos).1 with
          | none => rw [e] at ih; exact ih
          | some a => rw [e] at ih; exact ih
      · rw [hb, if_neg (by simp)]
        have ih := spans_runB s f (pos + (Utf8.decode s pos).2) hw2 (by omega)
        rw [runB_skip s pos _ hw1 hn] at ih
        cases e : (runB s pos).1 with
        | none => rw [e] at ih; exact ih
        | some a => rw [e] at ih; exact ih
    · obtain rfl : pos = s.size := by omega
      rw [Lib.spansFromP_end _ _ _ _ _ _ hlt]
def pieces (s : ByteArray) (l : List (Nat × Nat)) : List ByteArray := l.map fun x => s.extract x.1 x.2
/-- The words of a text. -/
def wordsL (s : ByteArray) : List ByteArray := pieces s (Lib.closeSpans s ((runB s s.size).2, (runB s s.size).1))
theorem words_eq (s : ByteArray) : Lib.goFieldsP blankN s = wordsL s := by
  unfold Lib.goFieldsP Lib.spansOfP wordsL pieces
  have := spans_runB s s.size 0 (Nat.zero_le _) (by omega)
  rw [show (runB s 0).1 = none from rfl, show (runB s 0).2 = [] from rfl] at this
  rw [this]
/-- The word that is open. -/
def openW (s : ByteArray) (n : Nat) : ByteArray := match (runB s n).1 with
  | some a => s.extract a n
  | none => ⟨#[]⟩

end Go.Proofs.YtdiljkmlneeboaaGreat.N
namespace Go.Proofs
open Go.Shelf
shelf_lay Lays.n229 Nm 229 at Tryz as Tryz.fieldsF
theorem Tryz.info9 : (Tryz.prog.info? 9).map (fun i => (i.zero, i.size, i.bytes)) = some (some (.string ⟨#[]⟩), 1, 16) := by kernel_rfl
theorem Tryz.info194 : (Tryz.prog.info? 194).map (fun i => (i.zero, i.size, i.bytes)) = some (some (.agg #[.int .i64 0, .int .i64 0]), 2, 16) := by kernel_rfl
end Go.Proofs
namespace Go.Proofs.YtdiljkmlneeboaaGreat.N
open Go.RowKit Go.Lib
set_option maxRecDepth 100000

theorem blank_C (f : Nat) (hf : f = 111 ∨ f = 75) (x : Nat) (w : World) : Calls Tryz.prog f #[.int .i32 x] w fun e w' => e = .returned (.bool (blankN x)) ∧ w' = w := by
  have HR : Hid (blankN x = (((x : Int) == 32) || ((x : Int) == 9) || ((x : Int) == 10))) := by
    show _ = _
    unfold blankN
    have h : ∀ k : Nat, (x == k) = ((x : Int) == (k : Int)) := fun k => by
      rw [Bool.eq_iff_iff]; simp; omega
    rw [h, h, h]
    rfl
  generalize blankN x = R at *
  generalize (x : Int) = z at *
  rcases hf with rfl | rfl
  · by_cases h1 : z = 32
    · subst h1
      go_enter Tryz.func111, Tryz.ntmps111
      go_wp2
      go_ret
      exact ⟨by rw [HR.out]; rfl, rfl⟩
    · have h1' : (z == 32) = false := by simpa using h1
      by_cases h2 : z = 9
      · subst h2
        go_enter Tryz.func111, Tryz.ntmps111
        go_wp2
        go_ret
        exact ⟨by rw [HR.out]; rfl, rfl⟩
      · have h2' : (z == 9) = false := by simpa using h2
        go_enter Tryz.func111, Tryz.ntmps111
        go_wp2
        go_ret
        exact ⟨by rw [HR.out, h1', h2']; rfl, rfl⟩
  · by_cases h1 : z = 32
    · subst h1
      go_enter Tryz.func75, Tryz.ntmps75
      go_wp2
      go_ret
      exact ⟨by rw [HR.out]; rfl, rfl⟩
    · have h1' : (z == 32) = false := by simpa using h1
      by_cases h2 : z = 9
      · subst h2
        go_enter Tryz.func75, Tryz.ntmps75
        go_wp2
        go_ret
        exact ⟨by rw [HR.out]; rfl, rfl⟩
      · have h2' : (z == 9) = false := by simpa using h2
        go_enter Tryz.func75, Tryz.ntmps75
        go_wp2
        go_ret
        exact ⟨by rw [HR.out, h1', h2']; rfl, rfl⟩
theorem e111 : ∀ args w, (callFunc 111 args).run Tryz.prog w = .ok (.enter 111 args) w := enters_of Tryz.func111 (by kernel_rfl) rfl
def strsV (l : List ByteArray) : List Value := l.map Value.string
theorem strsV_one (l : List ByteArray) : ∀ u ∈ strsV l, u.oneCell' = true := by
  intro u hu
  obtain ⟨k, _, rfl⟩ := List.mem_map.1 hu
  rfl
theorem strsV_at {l : List ByteArray} {i : Nat} (h : i < l.length) : (strsV l)[i]? = some (.string l[i]) := by simp [strsV, h]
set_option maxHeartbeats 1000000 in
theorem words_any (s : ByteArray) (hs : s.size ≤ 3000) (w : World) : Calls Tryz.prog 73 #[.string s] w fun e w' => ∃ a c, e = .returned (.slice a (wordsL s).length c) ∧ RowAt w' 1 a (wordsL s).length c (strsV (wordsL s)) ∧ Below w.heap.size w w' := by
  have h := Any.strings_FieldsFunc_runes Tryz.fieldsF 111 #[] e111 blankN s w (by omega) (fun W x _ _ => by
    refine (blank_C 111 (.inl rfl) x W).mono ?_
    rintro e w' ⟨rfl, rfl⟩
    exact ⟨rfl, 0, rfl⟩) Tryz.info194 Tryz.info9
  change Calls Tryz.prog 110 _ _ _ at h
  rw [words_eq] at h
  generalize hL : wordsL s = L at *
  clear hL
  go_enter Tryz.func73, Tryz.ntmps73
  go_wp2_with (go_at_call 110; fail)
  refine h.mono ?_
  rintro e w1 ⟨A, rfl, _, hown, hB⟩
  obtain ⟨a, c, e, hr, _⟩ := RowAt.of_owns hown (strsV_one L)
  cases e
  have HR := hid_mk hr
  have HB := hid_mk hB
  clear h hown hr hB
  go_wp2
  go_ret
  exact ⟨_, _, rfl, HR.out, HB.out⟩
set_option maxHeartbeats 1000000 in
theorem words_own (s : ByteArray) (hs : s.size ≤ 3000) (w : World) : Calls Tryz.prog 73 #[.string s] w fun e w' => ∃ v, e = .returned v ∧ w'.ownsRow w.heap.size 9 1 v (wordsL s).length (strsV (wordsL s)) ∧ Below w.heap.size w w' := by
  have h := Any.strings_FieldsFunc_runes Tryz.fieldsF 111 #[] e111 blankN s w (by omega) (fun W x _ _ => by
    refine (blank_C 111 (.inl rfl) x W).mono ?_
    rintro e w' ⟨rfl, rfl⟩
    exact ⟨rfl, 0, rfl⟩) Tryz.info194 Tryz.info9
  change Calls Tryz.prog 110 _ _ _ at h
  rw [words_eq] at h
  generalize hL : wordsL s = L at *
  clear hL
  go_enter Tryz.func73, Tryz.ntmps73
  go_wp2_with (go_at_call 110; fail)
  refine h.mono ?_
  rintro e w1 ⟨A, rfl, _, hown, hB⟩
  have HR := hid_mk hown
  obtain ⟨a, c, e, hr, _⟩ := RowAt.of_owns hown (strsV_one L)
  cases e
  have HB := hid_mk hB
  clear h hown hr hB
  go_wp2
  go_ret
  exact ⟨_, rfl, HR.out, HB.out⟩
theorem ext_cat (s : ByteArray) {a i : Nat} (h1 : a ≤ i) (h2 : i < s.size) : s.extract a i ++ s.extract i (i + 1) = s.extract a (i + 1) := by
  apply ByteArray.ext
  rw [ByteArray.data_append, ByteArray.data_extract, ByteArray.data_extract, ByteArray.data_extract]
  apply Array.ext'
  simp only [Array.toList_append, Array.toList_extract, List.extract_eq_take_drop]
  have e1 : List.take (i - a + 1) (List.drop a s.data.toList) = List.take (i - a) (List.drop a s.data.toList) ++ (List.drop a s.data.toList)[i - a]?.toList := List.take_add_one
  rw [show i + 1 - a = (i - a) + 1 by omega, show i + 1 - i = 1 by omega, e1, List.getElem?_drop, show a + (i - a) = i by omega]
  have : i < s.data.toList.length := by simpa using h2
  rw [List.drop_eq_getElem_cons this, List.getElem?_eq_getElem this]
  simp
theorem open_non {s : ByteArray} {i : Nat} (hi : i < s.size) (hb : blankN (s.get! i).toNat = false) : openW s (i + 1) = openW s i ++ s.extract i (i + 1) ∧ (runB s (i + 1)).2 = (runB s i).2 := by
  have hlt := (runB_lt s i).1
  unfold openW
  rw [runB, stepB, hb, if_neg (by simp)]
  refine ⟨?_, rfl⟩
  dsimp only
  cases e : (runB s i).1 with
  | none =>
    dsimp only [Option.getD]
    apply ByteArray.ext
    simp
  | some a =>
    dsimp only [Option.getD]
    exact (ext_cat s (Nat.le_of_lt (hlt a e)) hi).symm
theorem open_blank {s : ByteArray} {i : Nat} (hb : blankN (s.get! i).toNat = true) : openW s (i + 1) = ⟨#[]⟩ ∧ pieces s (runB s (i + 1)).2 = pieces s (runB s i).2 ++ (if (openW s i).data.toList = [] ∧ (runB s i).1 = none then [] else [openW s i]) := by
  unfold openW
  rw [runB, stepB, hb, if_pos rfl]
  refine ⟨rfl, ?_⟩
  dsimp only
  cases e : (runB s i).1 with
  | none => simp
  | some a => simp [pieces]
theorem open_end (s : ByteArray) : wordsL s = pieces s (runB s s.size).2 ++ (if (openW s s.size).data.toList = [] ∧ (runB s s.size).1 = none then [] else [openW s s.size]) := by
  unfold wordsL Lib.closeSpans openW
  dsimp only
  cases e : (runB s s.size).1 with
  | none => simp
  | some a => simp [pieces]
theorem open_size {s : ByteArray} {i : Nat} (hi : i ≤ s.size) : ((openW s i).data.toList = [] ↔ (runB s i).1 = none) ∧ (openW s i).size ≤ s.size := by
  have hlt := (runB_lt s i).1
  unfold openW
  cases e : (runB s i).1 with
  | none => exact ⟨by simp, Nat.zero_le _⟩
  | some a =>
    have := hlt a e
    dsimp only
    refine ⟨⟨fun h => ?_, fun h => by cases h⟩, by rw [ByteArray.size_extract]; omega⟩
    exfalso
    have h2 := congrArg List.length h
    simp at h2
    omega

theorem RowAt.oneS {w W : World} {k : ByteArray} (h : W.heap[w.heap.size]? = some (.cells #[.string k] 9 (0, 0))) : RowAt W 1 (some ⟨w.heap.size, 0, none⟩) 1 1 [.string k] := by
  refine ⟨rfl, Nat.le_refl _, by decide, by intro u hu; simp at hu; subst hu; rfl, .inr ⟨_, _, rfl, (Array.getElem?_eq_some_iff.1 h).1, fun j u hu => ?_⟩⟩
  have hj := (List.getElem?_eq_some_iff.1 hu).1
  obtain rfl : j = 0 := by simp at hj; omega
  simp at hu
  subst hu
  simp [World.cell?, h]
set_option maxHeartbeats 4000000 in
theorem rwords_any (s : ByteArray) (hs : s.size ≤ 3000) (w : World) : Calls Tryz.prog 36 #[.string s] w fun e w' => ∃ a c, e = .returned (.slice a (wordsL s).length c) ∧ RowAt w' 1 a (wordsL s).length c (strsV (wordsL s)) ∧ Below w.heap.size w w' := by
  obtain ⟨i0, hi0, hz0, hz1, hz2⟩ := info_parts Tryz.info9
  have HBL : Hid (∀ x W, Calls Tryz.prog 75 #[.int .i32 (x : Nat)] W fun e w' => e = .returned (.bool (blankN x)) ∧ w' = W) := fun x W => blank_C 75 (.inr rfl) x W
  go_enter Tryz.func36, Tryz.ntmps36
  go_wp2
  go_loopw [3, 4, 5] (fun a3 a4 a5 wr => ∃ i : Nat, a5 = .int .i64 i ∧ ((i ≤ s.size ∧ a4 = .string (openW s i) ∧ Hid (wr.ownsRow w.heap.size 9 1 a3 (pieces s (runB s i).2).length (strsV (pieces s (runB s i).2)))) ∨ (i = s.size + 1 ∧ a4 = .string ⟨#[]⟩ ∧ Hid (wr.ownsRow w.heap.size 9 1 a3 (wordsL s).length (strsV (wordsL s))))) ∧ Hid (Below w.heap.size w wr)) (fun _ _ a5 _ => s.size + 2 - (intOf a5).toNat)
  case atStart => exact ⟨0, rfl, .inl ⟨Nat.zero_le _, rfl, hid_mk (World.ownsRow_nil _ _ _ _)⟩, hid_mk (Below.refl _ _)⟩
  case round =>
    obtain ⟨i, rfl, hcase, HB⟩ := hrel
    rcases hcase with ⟨hi, rfl, HO⟩ | ⟨rfl, rfl, HO⟩
    · obtain ⟨hemp, hsz⟩ := open_size hi
      by_cases hlt : i < s.size
      · have hbl := HBL.out (s.get! i).toNat wr
        have hx : (Value.int .i32 ((s.get! i).toNat : Nat)) = .int .i32 (wrap32 ((s[i]'hlt).toNat : Int)) := by
          have h1 : s.get! i = s[i]'hlt := by simp [ByteArray.get!, hlt, getElem!_pos]; rfl
          have h2 := (s[i]'hlt).toNat_lt
          rw [h1]
          congr 1
          unfold wrap32
          omega
        rw [hx] at hbl
        have HX := hid_mk hx
        clear hx
        cases hb : blankN (s.get! i).toNat with
        | false =>
          obtain ⟨ho1, ho2⟩ := open_non hlt hb
          rw [hb] at hbl
          have HO1 := hid_mk ho1
          have HO2 := hid_mk ho2
          clear ho1 ho2 hb hemp
          generalize openW s i = ow at *
          go_wp2_with (go_at_call 75; refine hbl.mono ?_; clear hbl; rintro e wx ⟨rfl, rfl⟩)
          exact ⟨⟨i + 1, by go_num, .inl ⟨by omega, by rw [HO1.out], by rw [HO2.out]; exact HO⟩, HB⟩, by simp only [intOf]; omega⟩
        | true =>
          obtain ⟨ho1, ho2⟩ := open_blank hb
          rw [hb] at hbl
          clear hb
          have HO1 := hid_mk ho1
          clear ho1
          by_cases he : (openW s i).data.toList = []
          · rw [if_pos ⟨he, hemp.1 he⟩, List.append_nil] at ho2
            have HO2 := hid_mk ho2
            have hz : openW s i = ⟨#[]⟩ := by
              apply ByteArray.ext
              exact Array.toList_eq_nil_iff.1 he
            rw [hz]
            clear ho2 hemp he hz hsz
            go_wp2_with (go_at_call 75; refine hbl.mono ?_; clear hbl; rintro e wx ⟨rfl, rfl⟩)
            exact ⟨⟨i + 1, by go_num, .inl ⟨by omega, by rw [HO1.out], by rw [HO2.out]; exact HO⟩, HB⟩, by simp only [intOf]; omega⟩
          · rw [if_neg (fun hc => he hc.1)] at ho2
            have HO2 := hid_mk ho2
            have hne3 : ((openW s i).toList == []) = false := by
              rw [ByteArray.toList_eq]
              cases hd : (openW s i).data.toList with
              | nil => exact absurd hd he
              | cons a r => rfl
            have hA1 : Below wr.heap.size wr (wr.alloc (.cells #[.string (openW s i)] 9)) := (Below.refl _ wr).alloc (Nat.le_refl _) _
            have hrow : RowAt (wr.alloc (.cells #[.string (openW s i)] 9)) 1 (some ⟨wr.heap.size, 0, none⟩) 1 1 [.string (openW s i)] := RowAt.oneS (heap_alloc_last wr _)
            have hown := ownsRow_below HO.out hA1
            have HBA : Hid (Below w.heap.size w (wr.alloc (.cells #[.string (openW s i)] 9))) := HB.out.trans (hA1.mono HB.out.size)
            have hBs := HBA.out.size
            have hpl : (pieces s (runB s i).2).length ≤ 3000 := by
              have := (runB_lt s i).2
              unfold pieces
              rw [List.length_map]
              omega
            clear ho2 hemp he hA1 HO
            generalize openW s i = ow at *
            generalize hPL : (pieces s (runB s i).2).length = PL at *
            have HPL := hid_mk hPL
            clear hPL
            go_wp2_with (first | (go_at_call 75; refine hbl.mono ?_; clear hbl; rintro e wx ⟨rfl, rfl⟩) | (at_builtin; go_must (refine wpList_append_rowAt rfl _ _ 82 rfl (B := w.heap.size) Tryz.underlying82 hi0 hz0 hz1 hz2 rfl (by decide) (by decide) rfl rfl hown hrow (by omega) hBs ?_); intro v' w2 hown2 hgrow2 _; have HOW := hid_mk hown2; have HG2 := hid_mk hgrow2; clear hown2 hgrow2))
            have hlx : strsV (pieces s (runB s i).2 ++ [ow]) = strsV (pieces s (runB s i).2) ++ [.string ow] := by simp [strsV]
            have hly : (pieces s (runB s i).2 ++ [ow]).length = PL + 1 := by rw [List.length_append, HPL.out]; rfl
            exact ⟨⟨i + 1, by go_num, .inl ⟨by omega, by rw [HO1.out], by rw [HO2.out]; exact (by rw [hlx, hly]; exact HOW)⟩, hid_mk (HBA.out.grown HG2.out HBA.out.size (fun k hk => (hown.lt k hk).1))⟩, by simp only [intOf]; omega⟩
      · obtain rfl : i = s.size := by omega
        have ho2 := open_end s
        clear hlt
        by_cases he : (openW s s.size).data.toList = []
        · rw [if_pos ⟨he, hemp.1 he⟩, List.append_nil] at ho2
          have HO2 := hid_mk ho2
          have hz : openW s s.size = ⟨#[]⟩ := by
            apply ByteArray.ext
            exact Array.toList_eq_nil_iff.1 he
          rw [hz]
          clear ho2 hemp he hz hsz
          go_wp2
          exact ⟨⟨s.size + 1, by go_num, .inr ⟨rfl, rfl, by rw [HO2.out]; exact HO⟩, HB⟩, by simp only [intOf]; omega⟩
        · rw [if_neg (fun hc => he hc.1)] at ho2
          have HO2 := hid_mk ho2
          have hne3 : ((openW s s.size).toList == []) = false := by
            rw [ByteArray.toList_eq]
            cases hd : (openW s s.size).data.toList with
            | nil => exact absurd hd he
            | cons a r => rfl
          have hA1 : Below wr.heap.size wr (wr.alloc (.cells #[.string (openW s s.size)] 9)) := (Below.refl _ wr).alloc (Nat.le_refl _) _
          have hrow : RowAt (wr.alloc (.cells #[.string (openW s s.size)] 9)) 1 (some ⟨wr.heap.size, 0, none⟩) 1 1 [.string (openW s s.size)] := RowAt.oneS (heap_alloc_last wr _)
          have hown := ownsRow_below HO.out hA1
          have HBA : Hid (Below w.heap.size w (wr.alloc (.cells #[.string (openW s s.size)] 9))) := HB.out.trans (hA1.mono HB.out.size)
          have hBs := HBA.out.size
          have hpl : (pieces s (runB s s.size).2).length ≤ 3000 := by
            have := (runB_lt s s.size).2
            unfold pieces
            rw [List.length_map]
            omega
          clear ho2 hemp he hA1 HO
          generalize openW s s.size = ow at *
          generalize hPL : (pieces s (runB s s.size).2).length = PL at *
          have HPL := hid_mk hPL
          clear hPL
          go_wp2_with (first | (at_builtin; go_must (refine wpList_append_rowAt rfl _ _ 82 rfl (B := w.heap.size) Tryz.underlying82 hi0 hz0 hz1 hz2 rfl (by decide) (by decide) rfl rfl hown hrow (by omega) hBs ?_); intro v' w2 hown2 hgrow2 _; have HOW := hid_mk hown2; have HG2 := hid_mk hgrow2; clear hown2 hgrow2))
          have hlx : strsV (pieces s (runB s s.size).2 ++ [ow]) = strsV (pieces s (runB s s.size).2) ++ [.string ow] := by simp [strsV]
          have hly : (pieces s (runB s s.size).2 ++ [ow]).length = PL + 1 := by rw [List.length_append, HPL.out]; rfl
          exact ⟨⟨s.size + 1, by go_num, .inr ⟨rfl, rfl, by rw [HO2.out]; exact (by rw [hlx, hly]; exact HOW)⟩, hid_mk (HBA.out.grown HG2.out HBA.out.size (fun k hk => (hown.lt k hk).1))⟩, by simp only [intOf]; omega⟩
    · obtain ⟨a, c, rfl, hr, _⟩ := RowAt.of_owns HO.out (strsV_one _)
      have HR := hid_mk hr
      clear hr HO
      generalize hWL : wordsL s = WL at *
      have HWL := hid_mk hWL
      clear hWL
      go_wp2
      go_ret
      rw [HWL.out]
      exact ⟨_, _, rfl, HR.out, HB.out⟩

end Go.Proofs.YtdiljkmlneeboaaGreat.N
namespace Go.Proofs.YtdiljkmlneeboaaGreat.B
open Go.RowKit
set_option maxRecDepth 100000

/-- All blocks but that one, and but rows of keys, are as they were. -/
structure KeepT (b : Nat) (w w' : World) : Prop where
  os : w'.os = w.os
  tape : w'.tape = w.tape
  output : w'.output = w.output
  size : w.heap.size ≤ w'.heap.size
  typ : ∀ j, j < w.heap.size → j ≠ b → (∀ c fr, w.heap[j]? ≠ some (.cells c 39 fr)) → w'.heap[j]? = w.heap[j]?
theorem KeepT.ofX {b : Nat} {w w' : World} (h : KeepX b w w') : KeepT b w w' := ⟨h.os, h.tape, h.output, h.size, fun j hj hn _ => h.block j hj hn⟩
theorem KeepT.of {b : Nat} {w w' : World} (h : Below w.heap.size w w') : KeepT b w w' := .ofX (KeepX.of h)
theorem KeepT.trans {b : Nat} {w w1 w2 : World} (h : KeepT b w w1) (k : KeepT b w1 w2) : KeepT b w w2 :=
  ⟨k.os.trans h.os, k.tape.trans h.tape, k.output.trans h.output, Nat.le_trans h.size k.size, fun j hj hn ht => by
    have e := h.typ j hj hn ht
    rw [k.typ j (Nat.lt_of_lt_of_le hj h.size) hn (by rw [e]; exact ht), e]⟩
theorem own_ty {w : World} {B j : Nat} {v : Value} {l : List Nat} (h : OwnK w B v l) (e : some j = v.ownBlock ∨ v.ownBlock = some j) (ht : ∀ c fr, w.heap[j]? ≠ some (.cells c 39 fr)) : False := by
  rcases h.2 with ⟨rfl, _⟩ | ⟨g, cap, cur, rfl, _, hg, _⟩
  · rcases e with e | e <;> cases e
  · have : j = g := by rcases e with e | e <;> cases e <;> rfl
    subst this
    exact ht _ _ hg

set_option maxHeartbeats 1000000 in
theorem tellT {w : World} {b B : Nat} {v : Value} {l : List Nat} (h : w.heap[b]? = some (.cells #[v] 30 (0, 0))) (ho : OwnK w B v l) (hb : b < B) (hB : B ≤ w.heap.size) (hl : l.length ≤ 1000000) (k : Nat) :
    Calls Tryz.prog 69 #[.int .u32 (k : Nat), .pointer (some ⟨b, 0, none⟩)] w fun e w' => e = .returned (.tuple #[]) ∧ (∃ v', w'.heap[b]? = some (.cells #[v'] 30 (0, 0)) ∧ OwnK w' B v' (l ++ [k])) ∧ KeepB b B w w' ∧ KeepT b w w' := by
  obtain ⟨i0, z0, hi, hz0, hz1, hz2, hz3⟩ := info25
  have hbl : b < w.heap.size := (Array.getElem?_eq_some_iff.1 h).1
  have c0 : w.cell? ⟨b, 0, none⟩ = some v := cellAt h 0
  have hown : (w.alloc (.cells #[.int .u32 (k : Int)] 39)).ownsRow B 39 1 v l.length (keysV l) := (ho.keep ((Below.refl _ _).alloc (Nat.le_refl _) _) : OwnK _ _ _ _)
  obtain ⟨a, c, rfl, hlc, hcm, _⟩ := ho.at
  have HH := hid_mk h
  have HO := hid_mk ho
  clear h ho
  go_enter Tryz.func69, Tryz.ntmps69
  go_wp2_with (at_builtin; with_reducible refine wpList_append_own _ rfl _ _ 30 rfl B 39 i0 z0 1 4 Tryz.underlying30 hi hz0 hz1 hz2 hz3 (by decide) (.slice a l.length c) l.length (keysV l) rfl hown ⟨w.heap.size, 0, none⟩ 1 1 [.int .u32 ((k : Nat) : Int)] rfl rfl (one_cell w k) ?c1 ?c2 ?c3 ?c4 ?_)
  case c1 => intro u hu; rw [List.mem_singleton.1 hu]; rfl
  case c2 => unfold maxLen; omega
  case c3 => omega
  case c4 => simp; omega
  intro v' w2 ho2 hg _
  have hO2 : OwnK w2 B v' (l ++ [k]) := own_more ho2
  have hblk : ∀ j, j < B → w2.heap[j]? = w.heap[j]? := fun j hj => by
    rw [hg.block j (by simp; omega) (fun e => by have := (hown.lt j e.symm).1; omega), Below.heap_alloc _ _ _ (by omega)]
  have hty : ∀ j, j < w.heap.size → (∀ c fr, w.heap[j]? ≠ some (.cells c 39 fr)) → w2.heap[j]? = w.heap[j]? := fun j hj ht => by
    rw [hg.block j (by simp; omega) (fun e => own_ty HO.out (by first | exact .inl e | exact .inr e) ht), Below.heap_alloc _ _ _ (by omega)]
  have HTY := hid_mk hty
  have hb2 : w2.heap[b]? = some (.cells #[.slice a l.length c] 30 (0, 0)) := (hblk b hb).trans HH.out
  have hos : w2.os = w.os := hg.os
  have hta : w2.tape = w.tape := hg.tape
  have hou : w2.output = w.output := hg.output
  have hsz : w.heap.size ≤ w2.heap.size := Nat.le_trans (by simp) hg.size
  have m0 : w2.cell? ⟨b, 0, none⟩ = some (.slice a l.length c) := cellAt hb2 0
  have m1 : w2.frozen? ⟨b, 0, none⟩ = false := by simp [World.frozen?, hb2]
  have HB2 := hid_mk hb2
  have HO2 := hid_mk hO2
  have HBK := hid_mk hblk
  clear ho2 hg hb2 hown c0 HH hi hz0 hz1 hz2 hz3 hblk hO2 hty
  obtain ⟨a', c', rfl, hlc', hcm', _⟩ := HO2.out.at
  have HLN : Hid ((l ++ [k]).length = l.length + 1) := by rw [Hid, List.length_append, List.length_singleton]
  rw [HLN.out] at HO2 hlc' ⊢
  go_wp2
  have hset : ∀ j, j ≠ b → (w2.setCell ⟨b, 0, none⟩ (.slice a' (l.length + 1) c')).heap[j]? = w2.heap[j]? := fun j hj => Below.heap_setCell _ _ _ _ hj
  refine bodyPost_end (v := .tuple #[]) (by simp [results, Tryz.results69, go_sem]) rfl ⟨rfl, ⟨.slice a' (l.length + 1) c', ?_, ?_⟩, ⟨hos, hta, hou, by simpa using hsz, fun j hj hn => (hset j hn).trans (HBK.out j hj)⟩, ⟨hos, hta, hou, by simpa using hsz, fun j hj hn ht => (hset j hn).trans (HTY.out j hj ht)⟩⟩
  · rw [set_at 0 _ _ HB2.out]
    rfl
  · exact HO2.out.off fun j hj => hset j (by omega)

set_option maxHeartbeats 1000000 in
theorem tell37 {w : World} {b : Nat} {f : Flt} (hf : f.ok) (h : FAt w b 35 f) (k : Nat) (hk : k < 4294967296) : Calls Tryz.prog 37 #[.int .u32 (k : Nat), .pointer (some ⟨b, 0, none⟩)] w fun e w' => e = .returned (.tuple #[]) ∧ FAt w' b 35 (f.add k) ∧ KeepX b w w' := by
  have ha := add_any f hf k hk w
  have HF := hid_mk h
  obtain ⟨⟨k0, k1, k2, k3⟩, f0, f1, f2, f3⟩ := h.cells
  obtain ⟨r, hr⟩ : ∃ r, r = f.add k := ⟨_, rfl⟩
  rw [← hr] at ha ⊢
  clear hr h
  unfold Flt.v at ha
  go_enter Tryz.func37, Tryz.ntmps37
  go_wp2_with (go_at_call 17; fail)
  refine ha.mono ?_
  rintro e w1 ⟨rfl, hB1⟩
  have HF1 := hid_mk (HF.out.keep hB1)
  have HB1 := hid_mk hB1
  clear k0 k1 k2 k3 f0 f1 f2 f3 HF hB1 ha
  obtain ⟨⟨k0, k1, k2, k3⟩, f0, f1, f2, f3⟩ := HF1.out.cells
  go_wp2
  have hr := HF1.out.put r
  have hX : KeepX b w (put4 w1 b r) := (KeepX.of HB1.out).trans ⟨rfl, rfl, rfl, by simp [put4], fun k hk hn => by
    unfold put4
    rw [Below.heap_setCell _ _ _ _ hn, Below.heap_setCell _ _ _ _ hn, Below.heap_setCell _ _ _ _ hn, Below.heap_setCell _ _ _ _ hn]⟩
  unfold put4 at hr hX
  exact bodyPost_end (v := .tuple #[]) (by simp [results, Tryz.results37, go_sem]) rfl ⟨rfl, hr, hX⟩
end Go.Proofs.YtdiljkmlneeboaaGreat.B
namespace Go.Proofs.YtdiljkmlneeboaaGreat.B
open Go.RowKit Go.Proofs.YtdiljkmlneeboaaGreat.N
set_option maxRecDepth 100000

def idB : ByteArray := ⟨#[105, 100]⟩
def clB : ByteArray := ⟨#[99, 108, 97, 115, 115]⟩
/-- The keys of an element's names, in the order in which they are told. -/
def idL (m : M) (id : Int) : List Nat := match attrZ m id idB with
  | some v => [keyN 3 v]
  | none => []
def clL (m : M) (id : Int) : List Nat := (wordsL ((attrZ m id clB).getD ⟨#[]⟩)).map (keyN 2)
def wearL (m : M) (id : Int) : List Nat := match m id with
  | none => []
  | some e => keyN 1 e.tag :: (idL m id ++ clL m id)
/-- Names of elements are short. -/
def TagOk (m : M) : Prop := ∀ n e, m n = some e → e.tag.size ≤ 64
theorem nameZ_le {s : ByteArray} (h : nameZ s = true) : s.size ≤ 64 := by
  unfold nameZ at h
  split at h
  · cases h
  · omega
theorem valA_mem {us : List (ByteArray × ByteArray)} {nm v : ByteArray} (h : valA us nm = some v) : ∃ p ∈ us, p.2 = v := by
  unfold valA at h
  rw [Option.map_eq_some_iff] at h
  obtain ⟨p, hp, rfl⟩ := h
  exact ⟨p, List.mem_of_find?_eq_some hp, rfl⟩
/-- Values of attributes are short. -/
theorem val_le {us : List (ByteArray × ByteArray)} (h : uOk us) (nm : ByteArray) : ((valA us nm).getD ⟨#[]⟩).size ≤ 1000 := by
  cases hv : valA us nm with
  | none => decide
  | some v =>
    obtain ⟨p, hp, rfl⟩ := valA_mem hv
    exact (h.2.2 p hp).2
theorem attr_le {w : World} {dp : Value} {m : M} {nx : Int} (h : Tree w dp m nx) (id : Int) (nm : ByteArray) : ((attrZ m id nm).getD ⟨#[]⟩).size ≤ 1000 := by
  obtain ⟨_, d, I⟩ := h
  unfold attrZ
  cases he : m id with
  | none => exact Nat.zero_le _
  | some e => exact val_le (I.us he) nm
theorem wordsL_len (s : ByteArray) : (wordsL s).length ≤ s.size + 1 := by
  have h := (runB_lt s s.size).2
  unfold wordsL pieces
  rw [List.length_map]
  generalize runB s s.size = r at h
  obtain ⟨o, l⟩ := r
  cases o with
  | none => exact Nat.le_succ_of_le h
  | some a =>
    unfold Lib.closeSpans
    simp only [List.length_append, List.length_singleton] at h ⊢
    omega
theorem wordsL_le {s x : ByteArray} (h : x ∈ wordsL s) : x.size ≤ s.size := by
  unfold wordsL pieces at h
  obtain ⟨p, _, rfl⟩ := List.mem_map.1 h
  rw [ByteArray.size_extract]
  omega
theorem wearL_len {w : World} {dp : Value} {m : M} {nx : Int} (h : Tree w dp m nx) (id : Int) : (wearL m id).length ≤ 1010 := by
  unfold wearL
  cases m id with
  | none => simp
  | some e =>
    have h1 : (idL m id).length ≤ 1 := by
      unfold idL
      split <;> simp
    have h2 : (clL m id).length ≤ 1001 := by
      unfold clL
      have := wordsL_len ((attrZ m id clB).getD ⟨#[]⟩)
      have := attr_le h id clB
      simp only [List.length_map]
      omega
    simp only [List.length_cons, List.length_append]
    omega
/-- A row of words stays where only rows of keys, and one other block, are stored to. -/
theorem own_str {w w' : World} {B b : Nat} {v : Value} {n : Nat} {xs : List Value} (h : w.ownsRow B 9 1 v n xs) (k : KeepT b w w') (hb : b < B) : w'.ownsRow B 9 1 v n xs := by
  refine ⟨h.1, h.2.imp id fun ⟨g, cap, cur, a, c, d, r⟩ => ⟨g, cap, cur, a, c, ?_, r⟩⟩
  rw [k.typ g (Array.getElem?_eq_some_iff.1 d).1 (by omega) (fun c' fr e => by rw [d] at e; cases e)]
  exact d
end Go.Proofs.YtdiljkmlneeboaaGreat.B
namespace Go.Proofs.YtdiljkmlneeboaaGreat.B
open Go.RowKit Go.Proofs.YtdiljkmlneeboaaGreat.N
set_option maxRecDepth 100000

theorem own_cell1 {w : World} {B n t cap : Nat} {a : Option Addr} {xs : List Value} {x : Value} (h : w.ownsRow B 9 1 (.slice a n cap) n xs) (hx : xs[t]? = some x) (ht : t < n) : ∃ g, a = some ⟨g, 0, none⟩ ∧ w.cell? ⟨g, t, none⟩ = some x := by
  obtain ⟨_, ⟨h2, h3⟩ | ⟨g, cap', cur, h2, _, hg, _, _, hsz, htk⟩⟩ := h
  · omega
  · cases h2
    refine ⟨g, rfl, ?_⟩
    simp only [World.cell?, hg]
    rw [← htk, List.getElem?_take, if_pos (by omega)] at hx
    simpa using hx

set_option maxHeartbeats 800000 in
theorem wears_69 {w0 : World} {bd : Nat} {m : M} {nx : Int} (hT : Tree w0 (.pointer (some ⟨bd, 0, none⟩)) m nx) (hg : TagOk m) {b : Nat} {S : List Nat → World → Prop} {N : Nat}
    (HT : Hid (∀ l w k, k < 4294967296 → l.length ≤ N → Below w0.heap.size w0 w → b < w.heap.size → S l w → Calls Tryz.prog 69 #[.int .u32 (k : Nat), .pointer (some ⟨b, 0, none⟩)] w fun e w' => e = .returned (.tuple #[]) ∧ S (l ++ [k]) w' ∧ Below w0.heap.size w w' ∧ KeepT b w w'))
    (HK : Hid (∀ l w w', S l w → Below w.heap.size w w' → S l w'))
    (id : Int) {w : World} (hw : Below w0.heap.size w0 w) (hbw : b < w.heap.size) {l : List Nat} (hS : S l w) (hN : l.length + (wearL m id).length ≤ N) :
    Calls Tryz.prog 32 #[.pointer (some ⟨bd, 0, none⟩), .int .i64 id, .func (.func 69) #[] #[.pointer (some ⟨b, 0, none⟩)]] w fun e w' => e = .returned (.tuple #[]) ∧ S (l ++ wearL m id) w' ∧ Below w0.heap.size w w' ∧ KeepT b w w' := by
  have hnd := tree_node (hT.keep hw) id
  have HAT : Hid (∀ W nm, Below w0.heap.size w0 W → Calls Tryz.prog 72 #[.pointer (some ⟨bd, 0, none⟩), .int .i64 id, .string nm] W fun x w' => x = .returned (.tuple #[.string ((attrZ m id nm).getD ⟨#[]⟩), .bool (attrZ m id nm).isSome]) ∧ Below W.heap.size W w') := fun W nm h => tree_attr (hT.keep h) id nm
  have HLE : Hid (∀ nm, ((attrZ m id nm).getD ⟨#[]⟩).size ≤ 1000) := attr_le hT id
  have HW := hid_mk hw
  have HS := hid_mk hS
  have HN := hid_mk hN
  have hw0 : w0.heap.size ≤ w.heap.size := hw.size
  cases hm : m id with
  | none =>
    have HL : Hid (wearL m id = []) := by rw [Hid]; unfold wearL; rw [hm]
    rw [hm] at hnd
    clear hT hw hS hN HAT HLE hg
    go_enter Tryz.func32, Tryz.ntmps32
    go_wp2_with (go_at_call 44; fail)
    refine hnd.mono ?_
    rintro x w1 ⟨s, rfl, _, hB1⟩
    have HB1 := hid_mk hB1
    clear hnd hB1
    go_wp2
    obtain ⟨W1, hW1⟩ : ∃ W1, W1 = w1.alloc (.cells #[.int .i64 s.id, .string s.tag, .int .i64 s.par, .slice s.ka s.kn s.kc, .slice s.aa s.an s.ac] 76) := ⟨_, rfl⟩
    rw [← hW1]
    have hB : Below w.heap.size w W1 := by rw [hW1]; exact HB1.out.alloc HB1.out.size _
    exact bodyPost_ret (v := .tuple #[]) (by simp [results, Tryz.results32, go_sem]) rfl ⟨rfl, by rw [HL.out, List.append_nil]; exact HK.out _ _ _ HS.out hB, hB.mono hw0, .of hB⟩
  | some e =>
    have HL : Hid (wearL m id = keyN 1 e.tag :: (idL m id ++ clL m id)) := by rw [Hid]; unfold wearL; rw [hm]
    have htg : e.tag.size ≤ 64 := hg id e hm
    rw [hm] at hnd
    have HW0 := hid_mk hw
    clear hT hw hS hN hg
    go_enter Tryz.func32, Tryz.ntmps32
    go_wp2_with (go_at_call 44; fail)
    refine hnd.mono ?_
    rintro x w1 ⟨s, rfl, hE, hB1⟩
    have hst : e.tag = s.tag := hE.2.1.symm
    rw [hst] at HL htg
    obtain ⟨W1, hW1⟩ : ∃ W1, W1 = w1.alloc (.cells #[.int .i64 s.id, .string s.tag, .int .i64 s.par, .slice s.ka s.kn s.kc, .slice s.aa s.an s.ac] 76) := ⟨_, rfl⟩
    have hBW : Below w.heap.size w W1 := by rw [hW1]; exact hB1.alloc hB1.size _
    have hky := key_any 1 s.tag (by omega) W1
    have htl := HT.out l W1 (keyN 1 s.tag) (keyAt_lt (by decide) _ _) (by have := HN.out; rw [HL.out] at this; simp only [List.length_cons] at this; omega) (HW.out.trans (hBW.mono hw0)) (Nat.lt_of_lt_of_le hbw hBW.size) (HK.out _ _ _ HS.out hBW)
    have HBW := hid_mk hBW
    have HW1 := hid_mk hW1
    clear hnd hE hB1 hst hBW hW1
    go_wp2_with (go_at_call 21; fail)
    rw [← HW1.out]
    refine hky.mono ?_
    rintro e2 w2 ⟨rfl, rfl⟩
    clear hky HW1
    go_wp2_with (go_at_call 69; fail)
    refine htl.mono ?_
    rintro e2 w3 ⟨rfl, hS3, hB3, hT3⟩
    have HS3 := hid_mk hS3
    have HB3 : Hid (Below w0.heap.size w w3) := (HBW.out.mono hw0).trans hB3
    have HT3 : Hid (KeepT b w w3) := (KeepT.of HBW.out).trans hT3
    have hat := HAT.out w3 idB (HW.out.trans HB3.out)
    have hLI := HLE.out idB
    have HID : Hid (((attrZ m id idB).isSome = false ∧ idL m id = []) ∨ ((attrZ m id idB).isSome = true ∧ idL m id = [keyN 3 ((attrZ m id idB).getD ⟨#[]⟩)])) := by
      rw [Hid]
      unfold idL
      cases attrZ m id idB with
      | none => exact .inl ⟨rfl, rfl⟩
      | some v => exact .inr ⟨rfl, rfl⟩
    generalize (attrZ m id idB).getD ⟨#[]⟩ = vs at *
    generalize (attrZ m id idB).isSome = vb at *
    unfold idB at hat
    clear htl hS3 hB3 hT3
    go_wp2_with (go_at_call 72; fail)
    refine hat.mono ?_
    rintro e2 w4 ⟨rfl, hB4⟩
    have HB4 := hid_mk hB4
    clear hat hB4
    have hb4 : b < w4.heap.size := Nat.lt_of_lt_of_le hbw (Nat.le_trans HT3.out.size HB4.out.size)
    have HS4 : Hid (S (l ++ [keyN 1 s.tag]) w4) := HK.out _ _ _ HS3.out HB4.out
    have HL4 : Hid (Below w0.heap.size w w4) := HB3.out.trans (HB4.out.mono (Nat.le_trans hw0 HB3.out.size))
    have HT4 : Hid (KeepT b w w4) := HT3.out.trans (.of HB4.out)
    clear HS3 HB3 HT3 HB4
    go_upto_if 33 with (fail)
    go_cut [] (fun wx => Hid (S (l ++ [keyN 1 s.tag] ++ idL m id) wx) ∧ Hid (Below w0.heap.size w wx) ∧ Hid (KeepT b w wx))
    case first =>
      rcases HID.out with ⟨h1, h2⟩ | ⟨h1, h2⟩
      · subst h1
        have HE := hid_mk h2
        clear HID hLI h2
        go_wp2_with fail
        go_meet
        exact ⟨by rw [HE.out, List.append_nil]; exact HS4, HL4, HT4⟩
      · subst h1
        have HE := hid_mk h2
        have hky := key_any 3 vs (by omega) w4
        have htl := HT.out _ w4 (keyN 3 vs) (keyAt_lt (by decide) _ _) (by have := HN.out; rw [HL.out, HE.out] at this; simp only [List.length_cons, List.length_append, List.length_nil] at this ⊢; omega) (HW.out.trans HL4.out) hb4 HS4.out
        clear HID h2
        go_wp2_with (go_at_call 21; fail)
        refine hky.mono ?_
        rintro e2 w5 ⟨rfl, rfl⟩
        clear hky
        go_wp2_with (go_at_call 69; fail)
        refine htl.mono ?_
        rintro e2 w6 ⟨rfl, hS6, hB6, hT6⟩
        have HS6 := hid_mk hS6
        have HB6 : Hid (Below w0.heap.size w w6) := HL4.out.trans hB6
        have HT6 : Hid (KeepT b w w6) := HT4.out.trans hT6
        clear htl hS6 hB6 hT6
        go_wp2_with fail
        go_meet
        exact ⟨by rw [HE.out]; exact HS6, HB6, HT6⟩
    case rest =>
    obtain ⟨HS5, HL5, HT5⟩ := hcut
    clear HS4 HL4 HT4 HID hLI hb4
    have hat := HAT.out wc clB (HW.out.trans HL5.out)
    have hLC := HLE.out clB
    have HCL : Hid (clL m id = (wordsL ((attrZ m id clB).getD ⟨#[]⟩)).map (keyN 2)) := rfl
    generalize (attrZ m id clB).getD ⟨#[]⟩ = cs at *
    generalize (attrZ m id clB).isSome = cb at *
    unfold clB at hat
    clear HAT HLE
    go_wp2_with (go_at_call 72; fail)
    refine hat.mono ?_
    rintro e2 w4 ⟨rfl, hB4⟩
    have HL6 : Hid (Below w0.heap.size w w4) := HL5.out.trans (hB4.mono (Nat.le_trans hw0 HL5.out.size))
    have HT6 : Hid (KeepT b w w4) := HT5.out.trans (.of hB4)
    have HS6 : Hid (S (l ++ [keyN 1 s.tag] ++ idL m id) w4) := HK.out _ _ _ HS5.out hB4
    have hwd := words_own cs (by omega) w4
    clear hat hB4 HL5 HT5 HS5
    go_wp2_with (go_at_call 73; fail)
    refine hwd.mono ?_
    rintro e2 w5 ⟨vv, rfl, ho5, hB5⟩
    have hb5 : b < w4.heap.size := Nat.lt_of_lt_of_le hbw HT6.out.size
    have HL7 : Hid (Below w0.heap.size w w5) := HL6.out.trans (hB5.mono (Nat.le_trans hw0 HL6.out.size))
    have HT7 : Hid (KeepT b w w5) := HT6.out.trans (.of hB5)
    have HS7 : Hid (S (l ++ [keyN 1 s.tag] ++ idL m id) w5) := HK.out _ _ _ HS6.out hB5
    have HNW : Hid ((l ++ [keyN 1 s.tag] ++ idL m id).length + (wordsL cs).length ≤ N) := by
      have := HN.out
      rw [HL.out, HCL.out] at this
      rw [Hid]
      simp only [List.length_cons, List.length_append, List.length_map, List.length_nil] at this ⊢
      omega
    have HWS : Hid (∀ x ∈ wordsL cs, x.size ≤ 1000) := fun x hx => Nat.le_trans (wordsL_le hx) hLC
    have HLE2 : Hid (l ++ wearL m id = l ++ [keyN 1 s.tag] ++ idL m id ++ (wordsL cs).map (keyN 2)) := by
      rw [Hid, HL.out, HCL.out]
      simp [List.append_assoc]
    have hwl := wordsL_len cs
    generalize l ++ [keyN 1 s.tag] ++ idL m id = l1 at *
    generalize wordsL cs = L at *
    clear hwd hB5 HL6 HT6 HS6 HCL HL HN HS HW
    obtain ⟨a, cap, rfl⟩ := own_slice ho5
    have HO5 := hid_mk ho5
    obtain ⟨n, hn⟩ : ∃ n, n = L.length := ⟨_, rfl⟩
    have HN2 := hid_mk hn
    rw [← hn] at HO5 HNW ⊢
    have hnl : n ≤ 1001 := by omega
    clear ho5 hn hwl hLC
    go_wp2
    go_loopw [47] (fun a47 wq => ∃ t : Nat, t ≤ n ∧ a47 = .int .i64 (t : Int) ∧ Hid (S (l1 ++ (L.take t).map (keyN 2)) wq) ∧ Hid (wq.ownsRow w4.heap.size 9 1 (.slice a n cap) n (strsV L)) ∧ Hid (Below w0.heap.size w wq) ∧ Hid (KeepT b w wq)) (fun a47 _ => n + 1 - (intOf a47).toNat)
    case atStart => exact ⟨0, Nat.zero_le _, rfl, by rw [Hid, List.take_zero, List.map_nil, List.append_nil]; exact HS7.out, HO5, HL7, HT7⟩
    case round =>
      obtain ⟨t, htn, rfl, HSt, HOt, HLt, HTt⟩ := hrel
      clear HS7 HO5 HL7 HT7
      by_cases htl : t < n
      · have hti : t < L.length := by rw [← HN2.out]; exact htl
        obtain ⟨g, ea, hc⟩ := own_cell1 HOt.out (by rw [strsV_at hti]) htl
        subst ea
        have hd1 : decide ((t : Int) < (n : Int)) = true := decide_eq_true (by omega)
        have HTK : Hid (L.take (t + 1) = L.take t ++ [L[t]]) := by rw [Hid, List.take_add_one, List.getElem?_eq_getElem hti]; rfl
        have hws : L[t].size ≤ 1000 := HWS.out _ (List.getElem_mem hti)
        generalize L[t] = x at *
        have hky := key_any 2 x (by omega) wr
        have htl2 := HT.out _ wr (keyN 2 x) (keyAt_lt (by decide) _ _) (by have := HNW.out; have := HN2.out; simp only [List.length_append, List.length_map, List.length_take]; omega) (HW0.out.trans HLt.out) (Nat.lt_of_lt_of_le hbw HTt.out.size) HSt.out
        clear hti
        go_wp2_with (go_at_call 21; fail)
        refine hky.mono ?_
        rintro e2 w6 ⟨rfl, rfl⟩
        clear hky hc
        go_wp2_with (go_at_call 69; fail)
        refine htl2.mono ?_
        rintro e2 w7 ⟨rfl, hS7, hB7, hT7⟩
        have HS8 : Hid (S (l1 ++ (L.take (t + 1)).map (keyN 2)) w7) := by
          rw [Hid, HTK.out, List.map_append, ← List.append_assoc]
          exact hS7
        have HO8 := hid_mk (own_str HOt.out hT7 hb5)
        have HL8 : Hid (Below w0.heap.size w w7) := HLt.out.trans hB7
        have HT8 : Hid (KeepT b w w7) := HTt.out.trans hT7
        clear htl2 hS7 hB7 hT7 HTK HSt HOt HLt HTt
        go_wp2
        exact ⟨⟨t + 1, by omega, by go_num, HS8, HO8, HL8, HT8⟩, by simp only [intOf]; omega⟩
      · have hte : t = n := by omega
        subst hte
        have HSE : Hid (S (l ++ wearL m id) wr) := by
          rw [Hid, HLE2.out]
          have := HSt.out
          rwa [HN2.out, List.take_length] at this
        clear HSt HLE2 HOt HNW HWS
        go_wp2
        exact bodyPost_end (v := .tuple #[]) (by simp [results, Tryz.results32, go_sem]) rfl ⟨rfl, HSE.out, HLt.out, HTt.out⟩

set_option maxHeartbeats 800000 in
theorem wears_37 {w0 : World} {bd : Nat} {m : M} {nx : Int} (hT : Tree w0 (.pointer (some ⟨bd, 0, none⟩)) m nx) (hg : TagOk m) {b : Nat} {S : List Nat → World → Prop} {N : Nat}
    (HT : Hid (∀ l w k, k < 4294967296 → l.length ≤ N → Below w0.heap.size w0 w → b < w.heap.size → S l w → Calls Tryz.prog 37 #[.int .u32 (k : Nat), .pointer (some ⟨b, 0, none⟩)] w fun e w' => e = .returned (.tuple #[]) ∧ S (l ++ [k]) w' ∧ Below w0.heap.size w w' ∧ KeepT b w w'))
    (HK : Hid (∀ l w w', S l w → Below w.heap.size w w' → S l w'))
    (id : Int) {w : World} (hw : Below w0.heap.size w0 w) (hbw : b < w.heap.size) {l : List Nat} (hS : S l w) (hN : l.length + (wearL m id).length ≤ N) :
    Calls Tryz.prog 32 #[.pointer (some ⟨bd, 0, none⟩), .int .i64 id, .func (.func 37) #[] #[.pointer (some ⟨b, 0, none⟩)]] w fun e w' => e = .returned (.tuple #[]) ∧ S (l ++ wearL m id) w' ∧ Below w0.heap.size w w' ∧ KeepT b w w' := by
  have hnd := tree_node (hT.keep hw) id
  have HAT : Hid (∀ W nm, Below w0.heap.size w0 W → Calls Tryz.prog 72 #[.pointer (some ⟨bd, 0, none⟩), .int .i64 id, .string nm] W fun x w' => x = .returned (.tuple #[.string ((attrZ m id nm).getD ⟨#[]⟩), .bool (attrZ m id nm).isSome]) ∧ Below W.heap.size W w') := fun W nm h => tree_attr (hT.keep h) id nm
  have HLE : Hid (∀ nm, ((attrZ m id nm).getD ⟨#[]⟩).size ≤ 1000) := attr_le hT id
  have HW := hid_mk hw
  have HS := hid_mk hS
  have HN := hid_mk hN
  have hw0 : w0.heap.size ≤ w.heap.size := hw.size
  cases hm : m id with
  | none =>
    have HL : Hid (wearL m id = []) := by rw [Hid]; unfold wearL; rw [hm]
    rw [hm] at hnd
    clear hT hw hS hN HAT HLE hg
    go_enter Tryz.func32, Tryz.ntmps32
    go_wp2_with (go_at_call 44; fail)
    refine hnd.mono ?_
    rintro x w1 ⟨s, rfl, _, hB1⟩
    have HB1 := hid_mk hB1
    clear hnd hB1
    go_wp2
    obtain ⟨W1, hW1⟩ : ∃ W1, W1 = w1.alloc (.cells #[.int .i64 s.id, .string s.tag, .int .i64 s.par, .slice s.ka s.kn s.kc, .slice s.aa s.an s.ac] 76) := ⟨_, rfl⟩
    rw [← hW1]
    have hB : Below w.heap.size w W1 := by rw [hW1]; exact HB1.out.alloc HB1.out.size _
    exact bodyPost_ret (v := .tuple #[]) (by simp [results, Tryz.results32, go_sem]) rfl ⟨rfl, by rw [HL.out, List.append_nil]; exact HK.out _ _ _ HS.out hB, hB.mono hw0, .of hB⟩
  | some e =>
    have HL : Hid (wearL m id = keyN 1 e.tag :: (idL m id ++ clL m id)) := by rw [Hid]; unfold wearL; rw [hm]
    have htg : e.tag.size ≤ 64 := hg id e hm
    rw [hm] at hnd
    have HW0 := hid_mk hw
    clear hT hw hS hN hg
    go_enter Tryz.func32, Tryz.ntmps32
    go_wp2_with (go_at_call 44; fail)
    refine hnd.mono ?_
    rintro x w1 ⟨s, rfl, hE, hB1⟩
    have hst : e.tag = s.tag := hE.2.1.symm
    rw [hst] at HL htg
    obtain ⟨W1, hW1⟩ : ∃ W1, W1 = w1.alloc (.cells #[.int .i64 s.id, .string s.tag, .int .i64 s.par, .slice s.ka s.kn s.kc, .slice s.aa s.an s.ac] 76) := ⟨_, rfl⟩
    have hBW : Below w.heap.size w W1 := by rw [hW1]; exact hB1.alloc hB1.size _
    have hky := key_any 1 s.tag (by omega) W1
    have htl := HT.out l W1 (keyN 1 s.tag) (keyAt_lt (by decide) _ _) (by have := HN.out; rw [HL.out] at this; simp only [List.length_cons] at this; omega) (HW.out.trans (hBW.mono hw0)) (Nat.lt_of_lt_of_le hbw hBW.size) (HK.out _ _ _ HS.out hBW)
    have HBW := hid_mk hBW
    have HW1 := hid_mk hW1
    clear hnd hE hB1 hst hBW hW1
    go_wp2_with (go_at_call 21; fail)
    rw [← HW1.out]
    refine hky.mono ?_
    rintro e2 w2 ⟨rfl, rfl⟩
    clear hky HW1
    go_wp2_with (go_at_call 37; fail)
    refine htl.mono ?_
    rintro e2 w3 ⟨rfl, hS3, hB3, hT3⟩
    have HS3 := hid_mk hS3
    have HB3 : Hid (Below w0.heap.size w w3) := (HBW.out.mono hw0).trans hB3
    have HT3 : Hid (KeepT b w w3) := (KeepT.of HBW.out).trans hT3
    have hat := HAT.out w3 idB (HW.out.trans HB3.out)
    have hLI := HLE.out idB
    have HID : Hid (((attrZ m id idB).isSome = false ∧ idL m id = []) ∨ ((attrZ m id idB).isSome = true ∧ idL m id = [keyN 3 ((attrZ m id idB).getD ⟨#[]⟩)])) := by
      rw [Hid]
      unfold idL
      cases attrZ m id idB with
      | none => exact .inl ⟨rfl, rfl⟩
      | some v => exact .inr ⟨rfl, rfl⟩
    generalize (attrZ m id idB).getD ⟨#[]⟩ = vs at *
    generalize (attrZ m id idB).isSome = vb at *
    unfold idB at hat
    clear htl hS3 hB3 hT3
    go_wp2_with (go_at_call 72; fail)
    refine hat.mono ?_
    rintro e2 w4 ⟨rfl, hB4⟩
    have HB4 := hid_mk hB4
    clear hat hB4
    have hb4 : b < w4.heap.size := Nat.lt_of_lt_of_le hbw (Nat.le_trans HT3.out.size HB4.out.size)
    have HS4 : Hid (S (l ++ [keyN 1 s.tag]) w4) := HK.out _ _ _ HS3.out HB4.out
    have HL4 : Hid (Below w0.heap.size w w4) := HB3.out.trans (HB4.out.mono (Nat.le_trans hw0 HB3.out.size))
    have HT4 : Hid (KeepT b w w4) := HT3.out.trans (.of HB4.out)
    clear HS3 HB3 HT3 HB4
    go_upto_if 33 with (fail)
    go_cut [] (fun wx => Hid (S (l ++ [keyN 1 s.tag] ++ idL m id) wx) ∧ Hid (Below w0.heap.size w wx) ∧ Hid (KeepT b w wx))
    case first =>
      rcases HID.out with ⟨h1, h2⟩ | ⟨h1, h2⟩
      · subst h1
        have HE := hid_mk h2
        clear HID hLI h2
        go_wp2_with fail
        go_meet
        exact ⟨by rw [HE.out, List.append_nil]; exact HS4, HL4, HT4⟩
      · subst h1
        have HE := hid_mk h2
        have hky := key_any 3 vs (by omega) w4
        have htl := HT.out _ w4 (keyN 3 vs) (keyAt_lt (by decide) _ _) (by have := HN.out; rw [HL.out, HE.out] at this; simp only [List.length_cons, List.length_append, List.length_nil] at this ⊢; omega) (HW.out.trans HL4.out) hb4 HS4.out
        clear HID h2
        go_wp2_with (go_at_call 21; fail)
        refine hky.mono ?_
        rintro e2 w5 ⟨rfl, rfl⟩
        clear hky
        go_wp2_with (go_at_call 37; fail)
        refine htl.mono ?_
        rintro e2 w6 ⟨rfl, hS6, hB6, hT6⟩
        have HS6 := hid_mk hS6
        have HB6 : Hid (Below w0.heap.size w w6) := HL4.out.trans hB6
        have HT6 : Hid (KeepT b w w6) := HT4.out.trans hT6
        clear htl hS6 hB6 hT6
        go_wp2_with fail
        go_meet
        exact ⟨by rw [HE.out]; exact HS6, HB6, HT6⟩
    case rest =>
    obtain ⟨HS5, HL5, HT5⟩ := hcut
    clear HS4 HL4 HT4 HID hLI hb4
    have hat := HAT.out wc clB (HW.out.trans HL5.out)
    have hLC := HLE.out clB
    have HCL : Hid (clL m id = (wordsL ((attrZ m id clB).getD ⟨#[]⟩)).map (keyN 2)) := rfl
    generalize (attrZ m id clB).getD ⟨#[]⟩ = cs at *
    generalize (attrZ m id clB).isSome = cb at *
    unfold clB at hat
    clear HAT HLE
    go_wp2_with (go_at_call 72; fail)
    refine hat.mono ?_
    rintro e2 w4 ⟨rfl, hB4⟩
    have HL6 : Hid (Below w0.heap.size w w4) := HL5.out.trans (hB4.mono (Nat.le_trans hw0 HL5.out.size))
    have HT6 : Hid (KeepT b w w4) := HT5.out.trans (.of hB4)
    have HS6 : Hid (S (l ++ [keyN 1 s.tag] ++ idL m id) w4) := HK.out _ _ _ HS5.out hB4
    have hwd := words_own cs (by omega) w4
    clear hat hB4 HL5 HT5 HS5
    go_wp2_with (go_at_call 73; fail)
    refine hwd.mono ?_
    rintro e2 w5 ⟨vv, rfl, ho5, hB5⟩
    have hb5 : b < w4.heap.size := Nat.lt_of_lt_of_le hbw HT6.out.size
    have HL7 : Hid (Below w0.heap.size w w5) := HL6.out.trans (hB5.mono (Nat.le_trans hw0 HL6.out.size))
    have HT7 : Hid (KeepT b w w5) := HT6.out.trans (.of hB5)
    have HS7 : Hid (S (l ++ [keyN 1 s.tag] ++ idL m id) w5) := HK.out _ _ _ HS6.out hB5
    have HNW : Hid ((l ++ [keyN 1 s.tag] ++ idL m id).length + (wordsL cs).length ≤ N) := by
      have := HN.out
      rw [HL.out, HCL.out] at this
      rw [Hid]
      simp only [List.length_cons, List.length_append, List.length_map, List.length_nil] at this ⊢
      omega
    have HWS : Hid (∀ x ∈ wordsL cs, x.size ≤ 1000) := fun x hx => Nat.le_trans (wordsL_le hx) hLC
    have HLE2 : Hid (l ++ wearL m id = l ++ [keyN 1 s.tag] ++ idL m id ++ (wordsL cs).map (keyN 2)) := by
      rw [Hid, HL.out, HCL.out]
      simp [List.append_assoc]
    have hwl := wordsL_len cs
    generalize l ++ [keyN 1 s.tag] ++ idL m id = l1 at *
    generalize wordsL cs = L at *
    clear hwd hB5 HL6 HT6 HS6 HCL HL HN HS HW
    obtain ⟨a, cap, rfl⟩ := own_slice ho5
    have HO5 := hid_mk ho5
    obtain ⟨n, hn⟩ : ∃ n, n = L.length := ⟨_, rfl⟩
    have HN2 := hid_mk hn
    rw [← hn] at HO5 HNW ⊢
    have hnl : n ≤ 1001 := by omega
    clear ho5 hn hwl hLC
    go_wp2
    go_loopw [47] (fun a47 wq => ∃ t : Nat, t ≤ n ∧ a47 = .int .i64 (t : Int) ∧ Hid (S (l1 ++ (L.take t).map (keyN 2)) wq) ∧ Hid (wq.ownsRow w4.heap.size 9 1 (.slice a n cap) n (strsV L)) ∧ Hid (Below w0.heap.size w wq) ∧ Hid (KeepT b w wq)) (fun a47 _ => n + 1 - (intOf a47).toNat)
    case atStart => exact ⟨0, Nat.zero_le _, rfl, by rw [Hid, List.take_zero, List.map_nil, List.append_nil]; exact HS7.out, HO5, HL7, HT7⟩
    case round =>
      obtain ⟨t, htn, rfl, HSt, HOt, HLt, HTt⟩ := hrel
      clear HS7 HO5 HL7 HT7
      by_cases htl : t < n
      · have hti : t < L.length := by rw [← HN2.out]; exact htl
        obtain ⟨g, ea, hc⟩ := own_cell1 HOt.out (by rw [strsV_at hti]) htl
        subst ea
        have hd1 : decide ((t : Int) < (n : Int)) = true := decide_eq_true (by omega)
        have HTK : Hid (L.take (t + 1) = L.take t ++ [L[t]]) := by rw [Hid, List.take_add_one, List.getElem?_eq_getElem hti]; rfl
        have hws : L[t].size ≤ 1000 := HWS.out _ (List.getElem_mem hti)
        generalize L[t] = x at *
        have hky := key_any 2 x (by omega) wr
        have htl2 := HT.out _ wr (keyN 2 x) (keyAt_lt (by decide) _ _) (by have := HNW.out; have := HN2.out; simp only [List.length_append, List.length_map, List.length_take]; omega) (HW0.out.trans HLt.out) (Nat.lt_of_lt_of_le hbw HTt.out.size) HSt.out
        clear hti
        go_wp2_with (go_at_call 21; fail)
        refine hky.mono ?_
        rintro e2 w6 ⟨rfl, rfl⟩
        clear hky hc
        go_wp2_with (go_at_call 37; fail)
        refine htl2.mono ?_
        rintro e2 w7 ⟨rfl, hS7, hB7, hT7⟩
        have HS8 : Hid (S (l1 ++ (L.take (t + 1)).map (keyN 2)) w7) := by
          rw [Hid, HTK.out, List.map_append, ← List.append_assoc]
          exact hS7
        have HO8 := hid_mk (own_str HOt.out hT7 hb5)
        have HL8 : Hid (Below w0.heap.size w w7) := HLt.out.trans hB7
        have HT8 : Hid (KeepT b w w7) := HTt.out.trans hT7
        clear htl2 hS7 hB7 hT7 HTK HSt HOt HLt HTt
        go_wp2
        exact ⟨⟨t + 1, by omega, by go_num, HS8, HO8, HL8, HT8⟩, by simp only [intOf]; omega⟩
      · have hte : t = n := by omega
        subst hte
        have HSE : Hid (S (l ++ wearL m id) wr) := by
          rw [Hid, HLE2.out]
          have := HSt.out
          rwa [HN2.out, List.take_length] at this
        clear HSt HLE2 HOt HNW HWS
        go_wp2
        exact bodyPost_end (v := .tuple #[]) (by simp [results, Tryz.results32, go_sem]) rfl ⟨rfl, HSE.out, HLt.out, HTt.out⟩
end Go.Proofs.YtdiljkmlneeboaaGreat.B
namespace Go.Proofs.YtdiljkmlneeboaaGreat.B
open Go.RowKit Go.Lib Go.Sort Go.Proofs.YtdiljkmlneeboaaGreat.N
set_option maxRecDepth 100000

set_option maxHeartbeats 1000000 in
theorem keys31_any {w0 w : World} {bd bx bi b : Nat} {m : M} {nx : Int} (hT : Tree w0 (.pointer (some ⟨bd, 0, none⟩)) m nx) (hg : TagOk m) (id : Int) (hw : Below w0.heap.size w0 w)
    (hx : w.heap[bx]? = some (.cells #[.pointer (some ⟨bd, 0, none⟩)] 25 (0, 0))) (hy : w.heap[bi]? = some (.cells #[.int .i64 id] 3 (0, 0))) (hk : w.heap[b]? = some (.cells #[.slice none 0 0] 30 (0, 0))) (hb : w0.heap.size ≤ b) :
    Calls Tryz.prog 31 #[.func (.func 69) #[] #[.pointer (some ⟨b, 0, none⟩)], .pointer (some ⟨bx, 0, none⟩), .pointer (some ⟨bi, 0, none⟩)] w fun e w' => e = .returned (.tuple #[]) ∧ (∃ v, w'.heap[b]? = some (.cells #[v] 30 (0, 0)) ∧ OwnK w' (b + 1) v (wearL m id)) ∧ Below w0.heap.size w w' := by
  have hbl : b < w.heap.size := (Array.getElem?_eq_some_iff.1 hk).1
  have h1 := wears_69 hT hg (b := b) (S := fun l W => ∃ v, W.heap[b]? = some (.cells #[v] 30 (0, 0)) ∧ OwnK W (b + 1) v l) (N := 1010)
    (fun l W k _ hl _ hbW ⟨v, h1, h2⟩ => (tellT h1 h2 (Nat.lt_succ_self b) (by omega) (by omega) k).mono fun e W' q => by
      obtain ⟨r, ⟨v', a1, a2⟩, a3, a4⟩ := q
      exact ⟨r, ⟨v', a1, a2⟩, ⟨a3.os, a3.tape, a3.output, a3.size, fun j hj => a3.block j (by omega) (by omega)⟩, a4⟩)
    (fun l W W' ⟨v, h1, h2⟩ hb' => ⟨v, (hb'.block _ (Array.getElem?_eq_some_iff.1 h1).1).trans h1, h2.keep hb'⟩)
    id hw hbl ⟨.slice none 0 0, hk, OwnK.nil _ _⟩ (by have := wearL_len hT id; simpa using this)
  have c0 : w.cell? ⟨bx, 0, none⟩ = some (.pointer (some ⟨bd, 0, none⟩)) := cellAt hx 0
  have c1 : w.cell? ⟨bi, 0, none⟩ = some (.int .i64 id) := cellAt hy 0
  rw [List.nil_append] at h1
  clear hT hg hw hx hy hk
  go_enter Tryz.func31, Tryz.ntmps31
  go_wp2_with (go_at_call 32; fail)
  refine h1.mono ?_
  rintro e w1 ⟨rfl, hS, hB, _⟩
  have HS := hid_mk hS
  have HB := hid_mk hB
  clear h1 hS hB
  go_wp2
  exact bodyPost_end (v := .tuple #[]) (by simp [results, Tryz.results31, go_sem]) rfl ⟨rfl, HS.out, HB.out⟩

set_option maxHeartbeats 1000000 in
theorem gathered_keys (HS : SortC) {w : World} {bd bx bi : Nat} {m : M} {nx : Int} (hT : Tree w (.pointer (some ⟨bd, 0, none⟩)) m nx) (hg : TagOk m) (id : Int)
    (hx : w.heap[bx]? = some (.cells #[.pointer (some ⟨bd, 0, none⟩)] 25 (0, 0))) (hy : w.heap[bi]? = some (.cells #[.int .i64 id] 3 (0, 0))) :
    Calls Tryz.prog 30 #[.func (.func 31) #[] #[.pointer (some ⟨bx, 0, none⟩), .pointer (some ⟨bi, 0, none⟩)]] w fun e w' => ∃ v, e = .returned v ∧ RdK w' v (putsL (wearL m id)) ∧ Below w.heap.size w w' := by
  obtain ⟨w2, hw2⟩ : ∃ w2, w2 = w.alloc (.cells #[.slice none 0 0] 30) := ⟨_, rfl⟩
  have hB2 : Below w.heap.size w w2 := by rw [hw2]; exact (Below.refl _ _).alloc (Nat.le_refl _) _
  have hs2 : w2.heap.size = w.heap.size + 1 := by rw [hw2]; simp
  have hk2 : w2.heap[w.heap.size]? = some (.cells #[.slice none 0 0] 30 (0, 0)) := by rw [hw2]; exact heap_alloc_last w _
  have hn23 := keys31_any (b := w.heap.size) hT hg id hB2 ((hB2.block _ (Array.getElem?_eq_some_iff.1 hx).1).trans hx) ((hB2.block _ (Array.getElem?_eq_some_iff.1 hy).1).trans hy) hk2 (Nat.le_refl _)
  have hal : (wearL m id).length ≤ 1000000 := Nat.le_trans (wearL_len hT id) (by decide)
  have HW2 := hid_mk hw2
  have HB2 := hid_mk hB2
  have HS2 := hid_mk hs2
  clear hw2 hB2 hs2 hk2 hT hg hx hy
  generalize wearL m id = L at *
  go_enter Tryz.func30, Tryz.ntmps30
  go_wp2_with (go_at_call 31; fail)
  rw [← HW2.out]
  refine hn23.mono ?_
  rintro e w3 ⟨rfl, ⟨v, hv, ho⟩, hX⟩
  have HB3 : Hid (Below w.heap.size w w3) := HB2.out.trans hX
  have k0 : w3.cell? ⟨w.heap.size, 0, none⟩ = some v := cellAt hv 0
  have HV := hid_mk hv
  clear hn23 hX hv
  rw [← HS2.out] at ho
  rcases ho.holds2 with ⟨rfl, rfl⟩ | ⟨g, cap, rfl, hBg, hgl, hlc2, hcm, hH⟩
  · have HRD : Hid (RdK w3 (.slice none 0 0) (putsL [])) := ⟨none, 0, rfl, Nat.le_refl _, Nat.zero_le _, fun t ht => absurd ht (by simp [putsL])⟩
    have hso := sort_nil w3
    have hco := compact_nil w3
    clear ho HS HV HW2 HS2 HB2
    go_wp2_with (go_at_call 70; fail)
    refine hso.mono ?_
    rintro e w4 ⟨rfl, rfl⟩
    clear hso
    go_wp2_with (go_at_call 71; fail)
    refine hco.mono ?_
    rintro e w5 ⟨rfl, rfl⟩
    clear hco
    go_wp2
    go_ret
    exact ⟨_, rfl, HRD.out, HB3.out⟩
  · have hil : (intsL L).length = L.length := by simp [intsL]
    have hso := HS g cap (intsL L) w3 hH hgl (by omega) (by omega)
    rw [hil] at hso
    clear ho HS hH
    go_wp2_with (go_at_call 70; fail)
    refine hso.mono ?_
    rintro e w4 ⟨rfl, ys, hp, hsd, hH4, hX4⟩
    have hyl : ys.toArray.size = L.length := by rw [List.size_toArray, hp.length_eq, hil]
    have hco := compact_any g 0 cap ys.toArray w4 hH4 (by omega) (by omega)
    have k1 : w4.cell? ⟨w.heap.size, 0, none⟩ = some (.slice (some ⟨g, 0, none⟩) L.length cap) := by
      rw [World.cell?_of_block (hX4.block w.heap.size (Array.getElem?_eq_some_iff.1 HV.out).1 (by rw [HS2.out] at hBg; omega))]
      exact k0
    have HB4 : Hid (Below w.heap.size w w4) := HB3.out.trans (hX4.below (B := w.heap.size) (by rw [HS2.out] at hBg; omega) HB3.out.size)
    have hcp := compact_of hp hsd
    have hle : (intsL (putsL L)).length ≤ ys.length := by
      have := puts_len L
      rw [List.size_toArray] at hyl
      simp [intsL]
      omega
    have HRD : Hid (∀ q, RdK (putRow (Value.int .u32) (Sort.ahead w4 q) g 0 (compactUpTo ys.toArray ys.toArray.size ++ List.replicate (ys.toArray.size - (compactUpTo ys.toArray ys.toArray.size).length) 0).toArray) (.slice (some ⟨g, 0, none⟩) (compactUpTo ys.toArray ys.toArray.size).length cap) (putsL L)) := fun q => holds_rd q hH4 (Nat.lt_of_lt_of_le hgl hX4.size) hcp hle (by rw [List.size_toArray] at hyl; omega) hcm
    have HKP : Hid (∀ q d, Below w.heap.size w (putRow (Value.int .u32) (Sort.ahead w4 q) g 0 d)) := fun q d => HB4.out.trans ((putRow_keep (Value.int .u32) w4 q g 0 d).below (B := w.heap.size) (by rw [HS2.out] at hBg; omega) HB4.out.size)
    rw [hyl] at hco HRD
    generalize compactUpTo ys.toArray L.length = Z at *
    clear hso hp hsd hH4 hX4 k0 hcp hle HV HW2
    go_wp2_with (go_at_call 71; fail)
    refine hco.mono ?_
    rintro e w5 ⟨rfl, q, rfl⟩
    clear hco k1
    go_wp2
    go_ret
    exact ⟨_, rfl, HRD.out q, HKP.out q _⟩


set_option maxHeartbeats 1000000 in
theorem keys_any {w : World} {bd : Nat} {m : M} {nx : Int} (hT : Tree w (.pointer (some ⟨bd, 0, none⟩)) m nx) (hg : TagOk m) (id : Int) :
    Calls Tryz.prog 9 #[.pointer (some ⟨bd, 0, none⟩), .int .i64 id] w fun e w' => ∃ v, e = .returned v ∧ RdK w' v (putsL (wearL m id)) ∧ Below w.heap.size w w' := by
  obtain ⟨w1, hw1⟩ : ∃ w1, w1 = (w.alloc (.cells #[.pointer (some ⟨bd, 0, none⟩)] 25)).alloc (.cells #[.int .i64 id] 3) := ⟨_, rfl⟩
  have hB1 : Below w.heap.size w w1 := by rw [hw1]; exact ((Below.refl _ _).alloc (Nat.le_refl _) _).alloc (by simp) _
  have hx : w1.heap[w.heap.size]? = some (.cells #[.pointer (some ⟨bd, 0, none⟩)] 25 (0, 0)) := by
    rw [hw1, Below.heap_alloc _ _ _ (by simp)]
    exact heap_alloc_last w _
  have hy : w1.heap[w.heap.size + 1]? = some (.cells #[.int .i64 id] 3 (0, 0)) := by
    have e : w.heap.size + 1 = (w.alloc (.cells #[.pointer (some ⟨bd, 0, none⟩)] 25)).heap.size := by simp
    rw [hw1, e]
    exact heap_alloc_last _ _
  have h1 := gathered_keys sort_keys (hT.keep hB1) hg id hx hy
  have HW1 := hid_mk hw1
  have HB1 := hid_mk hB1
  clear hT hg hx hy hw1 hB1
  go_enter Tryz.func9, Tryz.ntmps9
  go_wp2_with (go_at_call 30; fail)
  rw [← HW1.out]
  refine h1.mono ?_
  rintro e w2 ⟨v, rfl, hR, hB⟩
  have HR := hid_mk hR
  have HB : Hid (Below w.heap.size w w2) := HB1.out.trans (hB.mono HB1.out.size)
  obtain ⟨a, c, rfl, _⟩ := hR
  clear h1 hB
  go_wp2
  go_ret
  exact ⟨_, rfl, HR.out, HB.out⟩
end Go.Proofs.YtdiljkmlneeboaaGreat.B
namespace Go.Proofs.YtdiljkmlneeboaaGreat.B
open Go.RowKit Go.Proofs.YtdiljkmlneeboaaGreat.N
set_option maxRecDepth 100000

theorem RdK.nil (w : World) : RdK w (.slice none 0 0) [] := ⟨none, 0, rfl, Nat.le_refl _, Nat.zero_le _, fun t ht => absurd ht (by simp)⟩
theorem own_lit (w : World) (B k : Nat) (hB : B ≤ w.heap.size) : OwnK (w.alloc (.cells #[.int .u32 (k : Int)] 39)) B (.slice (some ⟨w.heap.size, 0, none⟩) 1 1) [k] :=
  ⟨rfl, .inr ⟨w.heap.size, 1, _, rfl, hB, heap_alloc_last w _, Nat.le_refl _, by decide, rfl, rfl⟩⟩
theorem row_cell1 {w : World} {n t c : Nat} {a : Option Addr} {xs : List Value} {x : Value} (h : RowAt w 1 a n c xs) (hx : xs[t]? = some x) (ht : t < n) : ∃ b o, a = some ⟨b, o, none⟩ ∧ w.cell? ⟨b, o + t, none⟩ = some x := by
  rcases h.2.2.2.2 with ⟨_, h0⟩ | ⟨b1, o1, e1, l1, g1⟩
  · have := h.2.1; omega
  · exact ⟨b1, o1, e1, g1 t x hx⟩
theorem puts_le (l : List Nat) {n : Nat} (h : l.length ≤ n) : (putsL l).length ≤ n := Nat.le_trans (puts_len l) h

set_option maxHeartbeats 1000000 in
theorem rkeys_any {w : World} {br : Nat} {L : List El} {m : M} {nx : Int} (hR : RTree w (.pointer (some ⟨br, 0, none⟩)) L m nx) (hg : TagOk m) (hle : ∀ id nm, ((attrZ m id nm).getD ⟨#[]⟩).size ≤ 1000) (id : Int) :
    Calls Tryz.prog 10 #[.pointer (some ⟨br, 0, none⟩), .int .i64 id] w fun e w' => ∃ v, e = .returned v ∧ OwnK w' w.heap.size v (putsL (wearL m id)) ∧ Below w.heap.size w w' := by
  have hnd := rt_node hR id
  have HAT : Hid (∀ W nm, Below w.heap.size w W → Calls Tryz.prog 34 #[.pointer (some ⟨br, 0, none⟩), .int .i64 id, .string nm] W fun x w' => x = .returned (.tuple #[.string ((attrZ m id nm).getD ⟨#[]⟩), .bool (attrZ m id nm).isSome]) ∧ Below W.heap.size W w') := fun W nm h => rattr_any (hR.keep h) id nm
  have HLE : Hid (∀ nm, ((attrZ m id nm).getD ⟨#[]⟩).size ≤ 1000) := hle id
  cases hm : m id with
  | none =>
    have HL : Hid (wearL m id = []) := by rw [Hid]; unfold wearL; rw [hm]
    rw [hm] at hnd
    clear hR HAT HLE hg hle
    go_enter Tryz.func10, Tryz.ntmps10
    go_wp2_with (go_at_call 33; fail)
    refine hnd.mono ?_
    rintro x w1 ⟨s, rfl, _, _, hB1⟩
    have HB1 := hid_mk hB1
    clear hnd hB1
    go_wp2
    go_ret
    exact ⟨_, rfl, by rw [HL.out]; exact OwnK.nil _ _, HB1.out.alloc HB1.out.size _⟩
  | some e =>
    have HL : Hid (wearL m id = [keyN 1 e.tag] ++ idL m id ++ clL m id) := by rw [Hid]; unfold wearL; rw [hm]; simp
    have htg : e.tag.size ≤ 64 := hg id e hm
    rw [hm] at hnd
    clear hR hg hle
    go_enter Tryz.func10, Tryz.ntmps10
    go_wp2_with (go_at_call 33; fail)
    refine hnd.mono ?_
    rintro x w1 ⟨s, rfl, hE, _, hB1⟩
    have hst : e.tag = s.tag := hE.2.1.symm
    rw [hst] at HL htg
    obtain ⟨W1, hW1⟩ : ∃ W1, W1 = w1.alloc (.cells #[.int .i64 s.id, .string s.tag, .int .i64 s.par, .slice s.ka s.kn s.kc, .slice s.aa s.an s.ac] 76) := ⟨_, rfl⟩
    have hBW : Below w.heap.size w W1 := by rw [hW1]; exact hB1.alloc hB1.size _
    have hky := rkey_any 1 s.tag (by omega) W1
    have HBW := hid_mk hBW
    have HW1 := hid_mk hW1
    clear hnd hE hB1 hst hBW hW1
    go_wp2_with (go_at_call 22; fail)
    rw [← HW1.out]
    refine hky.mono ?_
    rintro e2 w2 ⟨rfl, hB2⟩
    rw [show ((1 : Int) % 256).toNat = 1 from rfl]
    obtain ⟨W2, hW2⟩ : ∃ W2, W2 = w2.alloc (.cells #[.int .u32 (keyN 1 s.tag : Nat)] 39) := ⟨_, rfl⟩
    have hB02 : Below w.heap.size w w2 := HBW.out.trans (hB2.mono HBW.out.size)
    have HO2 : Hid (OwnK W2 w.heap.size (.slice (some ⟨w2.heap.size, 0, none⟩) 1 1) (putsL [keyN 1 s.tag])) := by
      rw [Hid, hW2]
      exact own_lit w2 w.heap.size _ hB02.size
    have HB2 : Hid (Below w.heap.size w W2) := by rw [Hid, hW2]; exact hB02.alloc hB02.size _
    have hat := HAT.out W2 idB HB2.out
    have hLI := HLE.out idB
    have HID : Hid (((attrZ m id idB).isSome = false ∧ idL m id = []) ∨ ((attrZ m id idB).isSome = true ∧ idL m id = [keyN 3 ((attrZ m id idB).getD ⟨#[]⟩)])) := by
      rw [Hid]
      unfold idL
      cases attrZ m id idB with
      | none => exact .inl ⟨rfl, rfl⟩
      | some v => exact .inr ⟨rfl, rfl⟩
    generalize (attrZ m id idB).getD ⟨#[]⟩ = vs at *
    generalize (attrZ m id idB).isSome = vb at *
    have HW2 := hid_mk hW2
    unfold idB at hat
    clear hky HW1 hB2 hB02 hW2
    go_wp2_with (go_at_call 34; fail)
    rw [← HW2.out]
    refine hat.mono ?_
    rintro e2 w4 ⟨rfl, hB4⟩
    have HO4 := hid_mk (HO2.out.keep hB4)
    have HL4 : Hid (Below w.heap.size w w4) := HB2.out.trans (hB4.mono HB2.out.size)
    clear hat hB4 HO2 HB2 HW2
    go_upto_if 32 with (fail)
    go_cut [7] (fun s7 wx => Hid (OwnK wx w.heap.size s7 (putsL ([keyN 1 s.tag] ++ idL m id))) ∧ Hid (Below w.heap.size w wx))
    case first =>
      rcases HID.out with ⟨h1, h2⟩ | ⟨h1, h2⟩
      · subst h1
        have HE := hid_mk h2
        clear HID hLI h2
        go_wp2_with fail
        go_meet
        exact ⟨by rw [HE.out, List.append_nil]; exact HO4, HL4⟩
      · subst h1
        have HE := hid_mk h2
        have hky := rkey_any 3 vs (by omega) w4
        clear HID h2
        go_wp2_with (go_at_call 22; fail)
        refine hky.mono ?_
        rintro e2 w5 ⟨rfl, hB5⟩
        rw [show ((3 : Int) % 256).toNat = 3 from rfl]
        have hpt := rput_any (HO4.out.keep hB5) (puts_le _ (by simp)) (keyN 3 vs)
        have HL5 : Hid (Below w.heap.size w w5) := HL4.out.trans (hB5.mono HL4.out.size)
        clear hky hB5
        go_wp2_with (go_at_call 35; fail)
        refine hpt.mono ?_
        rintro e2 w6 ⟨v', rfl, hO6, hB6⟩
        have HO6 : Hid (OwnK w6 w.heap.size v' (putsL ([keyN 1 s.tag] ++ [keyN 3 vs]))) := by
          rw [Hid, puts_one]
          exact hO6.low HL5.out.size
        have HL6 : Hid (Below w.heap.size w w6) := HL5.out.trans (hB6.mono HL5.out.size)
        clear hpt hO6 hB6
        go_wp2_with fail
        go_meet
        exact ⟨by rw [HE.out]; exact HO6, HL6⟩
    case rest =>
    obtain ⟨HO5, HL5⟩ := hcut
    clear HO4 HL4 HID hLI
    have hat := HAT.out wc clB HL5.out
    have hLC := HLE.out clB
    have HCL : Hid (clL m id = (wordsL ((attrZ m id clB).getD ⟨#[]⟩)).map (keyN 2)) := rfl
    generalize (attrZ m id clB).getD ⟨#[]⟩ = cs at *
    generalize (attrZ m id clB).isSome = cb at *
    unfold clB at hat
    clear HAT HLE
    go_wp2_with (go_at_call 34; fail)
    refine hat.mono ?_
    rintro e2 w5 ⟨rfl, hB5⟩
    have HO6 := hid_mk (HO5.out.keep hB5)
    have HL6 : Hid (Below w.heap.size w w5) := HL5.out.trans (hB5.mono HL5.out.size)
    have hwd := rwords_any cs (by omega) w5
    clear hat hB5 HO5 HL5
    go_wp2_with (go_at_call 36; fail)
    refine hwd.mono ?_
    rintro e2 w6 ⟨a, c, rfl, hrow, hB6⟩
    have HO7 := hid_mk (HO6.out.keep hB6)
    have HL7 : Hid (Below w.heap.size w w6) := HL6.out.trans (hB6.mono HL6.out.size)
    have HRW := hid_mk hrow
    have HWS : Hid (∀ x ∈ wordsL cs, x.size ≤ 1000) := fun x hx => Nat.le_trans (wordsL_le hx) hLC
    have hwl := wordsL_len cs
    have HL1 : Hid (([keyN 1 s.tag] ++ idL m id).length ≤ 2) := by
      rw [Hid]
      unfold idL
      split <;> simp
    have HLE2 : Hid (wearL m id = [keyN 1 s.tag] ++ idL m id ++ (wordsL cs).map (keyN 2)) := by rw [Hid, HL.out, HCL.out]
    generalize [keyN 1 s.tag] ++ idL m id = l1 at *
    generalize wordsL cs = L2 at *
    obtain ⟨n, hn⟩ : ∃ n, n = L2.length := ⟨_, rfl⟩
    have HN2 := hid_mk hn
    rw [← hn] at HRW ⊢
    have hnl : n ≤ 1001 := by omega
    have hc1 : n ≤ c ∧ c ≤ 9223372036854775807 := by have := HRW.out; exact ⟨this.2.1, this.2.2.1⟩
    clear hwd hrow hB6 HO6 HL6 hwl hLC hn HCL HL
    go_wp2
    go_loopw [46, 7] (fun a46 a7 wq => ∃ t : Nat, t ≤ n ∧ a46 = .int .i64 (t : Int) ∧ Hid (OwnK wq w.heap.size a7 (putsL (l1 ++ (L2.take t).map (keyN 2)))) ∧ Hid (RowAt wq 1 a n c (strsV L2)) ∧ Hid (Below w.heap.size w wq)) (fun a46 _ _ => n + 1 - (intOf a46).toNat)
    case atStart => exact ⟨0, Nat.zero_le _, rfl, by rw [Hid, List.take_zero, List.map_nil, List.append_nil]; exact HO7.out, HRW, HL7⟩
    case round =>
      obtain ⟨t, htn, rfl, HOt, HRt, HLt⟩ := hrel
      clear HO7 HRW HL7
      by_cases htl : t < n
      · have hti : t < L2.length := by rw [← HN2.out]; exact htl
        obtain ⟨bg, og, ea, hcl⟩ := row_cell1 HRt.out (strsV_at hti) htl
        subst ea
        have hd1 : decide ((t : Int) < (n : Int)) = true := decide_eq_true (by omega)
        have HTK : Hid (L2.take (t + 1) = L2.take t ++ [L2[t]]) := by rw [Hid, List.take_add_one, List.getElem?_eq_getElem hti]; rfl
        have hws : L2[t].size ≤ 1000 := HWS.out _ (List.getElem_mem hti)
        generalize L2[t] = x at *
        have hky := rkey_any 2 x (by omega) wr
        clear hti
        go_wp2_with (go_at_call 22; fail)
        refine hky.mono ?_
        rintro e2 w8 ⟨rfl, hB8⟩
        rw [show ((2 : Int) % 256).toNat = 2 from rfl]
        have hpt := rput_any (HOt.out.keep hB8) (puts_le _ (n := 1000000) (by have := HL1.out; simp only [List.length_append, List.length_map, List.length_take]; omega)) (keyN 2 x)
        have HR8 := hid_mk (HRt.out.keep hB8)
        have HL8 : Hid (Below w.heap.size w w8) := HLt.out.trans (hB8.mono HLt.out.size)
        clear hky hB8 hcl HRt HOt
        go_wp2_with (go_at_call 35; fail)
        refine hpt.mono ?_
        rintro e2 w9 ⟨v', rfl, hO9, hB9⟩
        have HO9 : Hid (OwnK w9 w.heap.size v' (putsL (l1 ++ (L2.take (t + 1)).map (keyN 2)))) := by
          rw [Hid, HTK.out, List.map_append, ← List.append_assoc, List.map_cons, List.map_nil, puts_one]
          exact hO9.low HL8.out.size
        have HR9 := hid_mk (HR8.out.keep hB9)
        have HL9 : Hid (Below w.heap.size w w9) := HL8.out.trans (hB9.mono HL8.out.size)
        clear hpt hO9 hB9 HTK HR8 HL8
        go_wp2
        exact ⟨⟨t + 1, by omega, by go_num, HO9, HR9, HL9⟩, by simp only [intOf]; omega⟩
      · have hte : t = n := by omega
        subst hte
        have HE : Hid (l1 ++ (L2.take t).map (keyN 2) = wearL m id) := by rw [Hid, HLE2.out, HN2.out, List.take_length]
        clear HLE2 HRt HWS HL1
        go_wp2
        go_ret
        exact ⟨_, rfl, by rw [← HE.out]; exact HOt.out, HLt.out⟩
end Go.Proofs.YtdiljkmlneeboaaGreat.B
namespace Go.Proofs.YtdiljkmlneeboaaGreat.B
open Go.RowKit Go.Proofs.YtdiljkmlneeboaaGreat.N
set_option maxRecDepth 100000

/-- The keys of all above. -/
def ofL (m : M) (id : Int) : List Nat := (ups m (parOf m id)).flatMap (wearL m)
def ofR (m : M) (id : Int) : List Nat := (ups m (parOf m id)).flatMap fun a => putsL (wearL m a)
theorem addAll_nil (f : Flt) : addAll f [] = f := rfl
theorem addAll_cat (f : Flt) (l k : List Nat) : addAll f (l ++ k) = addAll (addAll f l) k := List.foldl_append
theorem addAll_swap : ∀ (l k : List Nat) (f : Flt), addAll (addAll f l) k = addAll (addAll f k) l
  | l, [], f => rfl
  | l, x :: k, f => by
    show addAll ((addAll f l).add x) k = addAll (addAll (f.add x) k) l
    rw [addAll_add, addAll_swap l k]
theorem addAll_in : ∀ (l k : List Nat) (f : Flt), (∀ x ∈ k, x ∈ l) → addAll (addAll f l) k = addAll f l
  | l, [], f, _ => rfl
  | l, x :: k, f, h => by
    show addAll ((addAll f l).add x) k = addAll f l
    rw [addAll_mem f (h x (.head _))]
    exact addAll_in l k f fun y hy => h y (.tail _ hy)
theorem addAll_set {l k : List Nat} (f : Flt) (h1 : ∀ x ∈ k, x ∈ l) (h2 : ∀ x ∈ l, x ∈ k) : addAll f l = addAll f k := by
  rw [← addAll_in l k f h1, addAll_swap, addAll_in k l f h2]
theorem ofL_set (m : M) (id : Int) (f : Flt) : addAll f (ofL m id) = addAll f (ofR m id) := by
  refine addAll_set f (fun x hx => ?_) (fun x hx => ?_)
  · obtain ⟨a, ha, hx⟩ := List.mem_flatMap.1 hx
    exact List.mem_flatMap.2 ⟨a, ha, by have := (puts_mem' (wearL m a) [] x).1 hx; simpa using this⟩
  · obtain ⟨a, ha, hx⟩ := List.mem_flatMap.1 hx
    exact List.mem_flatMap.2 ⟨a, ha, (puts_mem' (wearL m a) [] x).2 (.inr hx)⟩
theorem own_int {w w' : World} {B b : Nat} {v : Value} {n : Nat} {xs : List Value} (h : w.ownsRow B 3 1 v n xs) (k : KeepT b w w') (hb : b < B) : w'.ownsRow B 3 1 v n xs := by
  refine ⟨h.1, h.2.imp id fun ⟨g, cap, cur, a, c, d, r⟩ => ⟨g, cap, cur, a, c, ?_, r⟩⟩
  rw [k.typ g (Array.getElem?_eq_some_iff.1 d).1 (by omega) (fun c' fr e => by rw [d] at e; cases e)]
  exact d
theorem own_cell3 {w : World} {B n t cap : Nat} {a : Option Addr} {xs : List Value} {x : Value} (h : w.ownsRow B 3 1 (.slice a n cap) n xs) (hx : xs[t]? = some x) (ht : t < n) : ∃ g, a = some ⟨g, 0, none⟩ ∧ w.cell? ⟨g, t, none⟩ = some x := by
  obtain ⟨_, ⟨h2, h3⟩ | ⟨g, cap', cur, h2, _, hg, _, _, hsz, htk⟩⟩ := h
  · omega
  · cases h2
    refine ⟨g, rfl, ?_⟩
    simp only [World.cell?, hg]
    rw [← htk, List.getElem?_take, if_pos (by omega)] at hx
    simpa using hx
theorem intsV_at {l : List Int} {t : Nat} (h : t < l.length) : (intsV l)[t]? = some (.int .i64 l[t]) := by simp [intsV, h]
theorem own_cap {w : World} {B n cap e : Nat} {a : Option Addr} {xs : List Value} (h : w.ownsRow B e 1 (.slice a n cap) n xs) : n ≤ cap ∧ cap ≤ 9223372036854775807 := by
  obtain ⟨_, ⟨h2, h3⟩ | ⟨g, cap', cur, h2, _, hg, h4, h5, _⟩⟩ := h
  · cases h2; exact ⟨by omega, by decide⟩
  · cases h2; exact ⟨h4, h5⟩

set_option maxHeartbeats 4000000 in
theorem of_any {w : World} {bd : Nat} {m : M} {nx : Int} (hT : Tree w (.pointer (some ⟨bd, 0, none⟩)) m nx) (hg : TagOk m) (id : Int) :
    Calls Tryz.prog 11 #[.pointer (some ⟨bd, 0, none⟩), .int .i64 id] w fun e w' => e = .returned (addAll fz (ofL m id)).v ∧ Below w.heap.size w w' := by
  obtain ⟨w1, hw1⟩ : ∃ w1, w1 = (w.alloc (.cells #[.int .u64 0, .int .u64 0, .int .u64 0, .int .u64 0] 35)).alloc (.cells #[.int .u64 0, .int .u64 0, .int .u64 0, .int .u64 0] 35) := ⟨_, rfl⟩
  have hB1 : Below w.heap.size w w1 := by rw [hw1]; exact ((Below.refl _ _).alloc (Nat.le_refl _) _).alloc (by simp) _
  have hs1 : w1.heap.size = w.heap.size + 2 := by rw [hw1]; simp
  have hF1 : FAt w1 (w.heap.size + 1) 35 fz := by rw [hw1]; exact zero_at w _ 35
  have hR1 : FAt w1 w.heap.size 35 fz := by
    rw [hw1]
    show _ = _
    rw [Below.heap_alloc _ _ _ (by simp)]
    exact heap_alloc_last w _
  have hup := wup_any (hT.keep hB1) id
  have HWR : Hid (∀ (a : Int) W l, Below w.heap.size w W → w.heap.size + 1 < W.heap.size → FAt W (w.heap.size + 1) 35 (addAll fz l) → Calls Tryz.prog 32 #[.pointer (some ⟨bd, 0, none⟩), .int .i64 a, .func (.func 37) #[] #[.pointer (some ⟨w.heap.size + 1, 0, none⟩)]] W fun e w' => e = .returned (.tuple #[]) ∧ FAt w' (w.heap.size + 1) 35 (addAll fz (l ++ wearL m a)) ∧ Below w.heap.size W w' ∧ KeepT (w.heap.size + 1) W w') := fun a W l hW hbW hS =>
    wears_37 hT hg (b := w.heap.size + 1) (S := fun l W => FAt W (w.heap.size + 1) 35 (addAll fz l)) (N := l.length + (wearL m a).length)
      (fun l W k hk _ _ _ h => (tell37 (ok_addAll l fz_ok) h k hk).mono fun e W' q => ⟨q.1, by rw [addAll_app]; exact q.2.1, q.2.2.below (by omega) (by have := h.lt; omega), .ofX q.2.2⟩)
      (fun l W W' h hb' => h.keep hb') a hW hbW hS (Nat.le_refl _)
  have HW1 := hid_mk hw1
  have HB1 := hid_mk hB1
  have HOF : Hid (ofL m id = (ups m (parOf m id)).flatMap (wearL m)) := rfl
  generalize ups m (parOf m id) = U at *
  clear hT hg hw1 hB1
  go_enter Tryz.func11, Tryz.ntmps11
  go_wp2_with (go_at_call 18; fail)
  rw [← HW1.out]
  refine hup.mono ?_
  rintro e w2 ⟨v, rfl, hO2, hB2⟩
  obtain ⟨a, cap, rfl⟩ := own_slice hO2
  have hcap := own_cap hO2
  have HO2 := hid_mk hO2
  have HF2 : Hid (FAt w2 (w.heap.size + 1) 35 (addAll fz [])) := hF1.keep hB2
  have HR2 := hid_mk (hR1.keep hB2)
  have HL2 : Hid (Below w.heap.size w w2) := HB1.out.trans (hB2.mono HB1.out.size)
  have HBB : Hid (w.heap.size + 1 < w1.heap.size) := by rw [Hid, hs1]; omega
  have hw12 : w1.heap.size ≤ w2.heap.size := hB2.size
  obtain ⟨n, hn⟩ : ∃ n, n = U.length := ⟨_, rfl⟩
  have HN2 := hid_mk hn
  rw [← hn] at HO2 hcap ⊢
  clear hup hO2 hF1 hR1 hB2 hn HW1 HB1 hs1
  go_wp2
  go_loopw [12] (fun a12 wq => ∃ t : Nat, t ≤ n ∧ a12 = .int .i64 (t : Int) ∧ w1.heap.size ≤ wq.heap.size ∧ Hid (FAt wq (w.heap.size + 1) 35 (addAll fz ((U.take t).flatMap (wearL m)))) ∧ Hid (FAt wq w.heap.size 35 fz) ∧ Hid (wq.ownsRow w1.heap.size 3 1 (.slice a n cap) n (intsV U)) ∧ Hid (Below w.heap.size w wq)) (fun a12 _ => n + 1 - (intOf a12).toNat)
  case atStart => exact ⟨0, Nat.zero_le _, rfl, hw12, HF2, HR2, HO2, HL2⟩
  case round =>
    obtain ⟨t, htn, rfl, hsq, HFt, HRt, HOt, HLt⟩ := hrel
    clear HF2 HR2 HO2 HL2
    by_cases htl : t < n
    · have hti : t < U.length := by rw [← HN2.out]; exact htl
      obtain ⟨g, ea, hc⟩ := own_cell3 HOt.out (intsV_at hti) htl
      subst ea
      have hd1 : decide ((t : Int) < (n : Int)) = true := decide_eq_true (by omega)
      have HTK : Hid ((U.take (t + 1)).flatMap (wearL m) = (U.take t).flatMap (wearL m) ++ wearL m U[t]) := by
        rw [Hid, List.take_add_one, List.getElem?_eq_getElem hti, List.flatMap_append]
        simp
      generalize U[t] = x at *
      have hwr := HWR.out x wr _ HLt.out (by have := HBB.out; omega) HFt.out
      clear hti
      go_wp2_with (go_at_call 32; fail)
      refine hwr.mono ?_
      rintro e2 w5 ⟨rfl, hF5, hB5, hT5⟩
      have HF5 : Hid (FAt w5 (w.heap.size + 1) 35 (addAll fz ((U.take (t + 1)).flatMap (wearL m)))) := by rw [Hid, HTK.out]; exact hF5
      have HR5 : Hid (FAt w5 w.heap.size 35 fz) := (hT5.typ _ HRt.out.lt (by omega) (fun c' fr e => by have := HRt.out; unfold FAt at this; rw [this] at e; cases e)).trans HRt.out
      have HO5 := hid_mk (own_int HOt.out hT5 HBB.out)
      have HL5 : Hid (Below w.heap.size w w5) := HLt.out.trans hB5
      have hs5 : w1.heap.size ≤ w5.heap.size := Nat.le_trans hsq hT5.size
      clear hwr hF5 hB5 hT5 HTK HFt HRt HOt HLt hc
      go_wp2
      exact ⟨⟨t + 1, by omega, by go_num, hs5, HF5, HR5, HO5, HL5⟩, by simp only [intOf]; omega⟩
    · have hte : t = n := by omega
      subst hte
      obtain ⟨r, hr⟩ : ∃ r, r = addAll fz ((U.take t).flatMap (wearL m)) := ⟨_, rfl⟩
      have HE : Hid (addAll fz (ofL m id) = r) := by rw [Hid, hr, HOF.out, HN2.out, List.take_length]
      rw [← hr] at HFt
      obtain ⟨⟨k0, k1, k2, k3⟩, _⟩ := HFt.out.cells
      obtain ⟨_, f0, f1, f2, f3⟩ := HRt.out.cells
      have HRR := HRt
      have hd1 : decide ((t : Int) < (t : Int)) = false := decide_eq_false (by omega)
      clear hr HWR HOF HOt HRt
      go_wp2
      have hj := (HRR.out.put r).cells.1
      have hB := put4_below HLt.out (Nat.le_refl _) r
      unfold put4 at hj hB
      generalize (((wr.setCell ⟨w.heap.size, 0, none⟩ (.int .u64 (r.a : Int))).setCell ⟨w.heap.size, 1, none⟩ (.int .u64 (r.b : Int))).setCell ⟨w.heap.size, 2, none⟩ (.int .u64 (r.c : Int))).setCell ⟨w.heap.size, 3, none⟩ (.int .u64 (r.d : Int)) = WW at *
      obtain ⟨j0, j1, j2, j3⟩ := hj
      clear k0 k1 k2 k3 f0 f1 f2 f3
      exact bodyPost_ret (v := r.v) (by simp [results, Tryz.results11, go_sem, Flt.v, j0, j1, j2, j3]) rfl ⟨by rw [HE.out], hB⟩
theorem keyN_lt (k : Nat) (s : ByteArray) : keyN k s < 4294967296 := keyAt_lt (by decide) _ _
theorem wearL_lt {m : M} {id : Int} : ∀ k ∈ wearL m id, k < 4294967296 := by
  intro k hk
  unfold wearL at hk
  cases h : m id with
  | none => rw [h] at hk; cases hk
  | some e =>
    rw [h] at hk
    rcases List.mem_cons.1 hk with rfl | hk
    · exact keyN_lt _ _
    · rcases List.mem_append.1 hk with hk | hk
      · unfold idL at hk
        cases h2 : attrZ m id idB with
        | none => rw [h2] at hk; cases hk
        | some v =>
          rw [h2] at hk
          rw [List.mem_singleton.1 hk]
          exact keyN_lt _ _
      · unfold clL at hk
        obtain ⟨x, _, rfl⟩ := List.mem_map.1 hk
        exact keyN_lt _ _
theorem KeepX.int {w w' : World} {B b : Nat} {v : Value} {n : Nat} {xs : List Value} (k : KeepX b w w') (h : w.ownsRow B 3 1 v n xs) (hb : b < B) : w'.ownsRow B 3 1 v n xs := own_int h (.ofX k) hb
theorem KeepX.own {w w' : World} {B b : Nat} {v : Value} {l : List Nat} (k : KeepX b w w') (h : OwnK w B v l) (hb : b < B) : OwnK w' B v l := by
  refine ⟨h.1, h.2.imp id fun ⟨g, cap, cur, a, c, d, r⟩ => ⟨g, cap, cur, a, c, ?_, r⟩⟩
  rw [k.block g (Array.getElem?_eq_some_iff.1 d).1 (by omega)]
  exact d
theorem put4_keep {w : World} {b : Nat} (r : Flt) : KeepX b w (put4 w b r) := ⟨rfl, rfl, rfl, by simp [put4], fun k _ hn => by
    unfold put4
    rw [Below.heap_setCell _ _ _ _ hn, Below.heap_setCell _ _ _ _ hn, Below.heap_setCell _ _ _ _ hn, Below.heap_setCell _ _ _ _ hn]⟩

set_option maxHeartbeats 1000000 in
theorem rof_any {w : World} {br : Nat} {L : List El} {m : M} {nx : Int} (hR : RTree w (.pointer (some ⟨br, 0, none⟩)) L m nx) (hg : TagOk m) (hle : ∀ id nm, ((attrZ m id nm).getD ⟨#[]⟩).size ≤ 1000) (id : Int) :
    Calls Tryz.prog 12 #[.pointer (some ⟨br, 0, none⟩), .int .i64 id] w fun e w' => e = .returned (addAll fz (ofR m id)).v ∧ Below w.heap.size w w' := by
  obtain ⟨w1, hw1⟩ : ∃ w1, w1 = (w.alloc (.cells #[.int .u64 0, .int .u64 0, .int .u64 0, .int .u64 0] 34)).alloc (.cells #[.int .u64 0, .int .u64 0, .int .u64 0, .int .u64 0] 34) := ⟨_, rfl⟩
  have hB1 : Below w.heap.size w w1 := by rw [hw1]; exact ((Below.refl _ _).alloc (Nat.le_refl _) _).alloc (by simp) _
  have hs1 : w1.heap.size = w.heap.size + 2 := by rw [hw1]; simp
  have hF1 : FAt w1 (w.heap.size + 1) 34 fz := by rw [hw1]; exact zero_at w _ 34
  have hR1 : FAt w1 w.heap.size 34 fz := by
    rw [hw1]
    show _ = _
    rw [Below.heap_alloc _ _ _ (by simp)]
    exact heap_alloc_last w _
  have hup := rup_any (hR.keep hB1) id
  have HKY : Hid (∀ (a : Int) W, Below w.heap.size w W → Calls Tryz.prog 10 #[.pointer (some ⟨br, 0, none⟩), .int .i64 a] W fun e w' => ∃ v, e = .returned v ∧ OwnK w' W.heap.size v (putsL (wearL m a)) ∧ Below W.heap.size W w') := fun a W hW => rkeys_any (hR.keep hW) hg hle a
  have HW1 := hid_mk hw1
  have HB1 := hid_mk hB1
  have HOF : Hid (ofR m id = (ups m (parOf m id)).flatMap fun a => putsL (wearL m a)) := rfl
  have HKL : Hid (∀ a, ∀ k ∈ putsL (wearL m a), k < 4294967296) := fun a k hk => by
    rcases (puts_mem' (wearL m a) [] k).1 hk with h | h
    · cases h
    · exact wearL_lt k h
  generalize ups m (parOf m id) = U at *
  clear hR hg hle hw1 hB1
  go_enter Tryz.func12, Tryz.ntmps12
  go_wp2_with (go_at_call 38; fail)
  rw [← HW1.out]
  refine hup.mono ?_
  rintro e w2 ⟨v, rfl, hO2, hB2⟩
  obtain ⟨a, cap, rfl⟩ := own_slice hO2
  have hcap := own_cap hO2
  have HO2 := hid_mk hO2
  have HF2 : Hid (FAt w2 (w.heap.size + 1) 34 (addAll fz [])) := hF1.keep hB2
  have HR2 := hid_mk (hR1.keep hB2)
  have HL2 : Hid (Below w.heap.size w w2) := HB1.out.trans (hB2.mono HB1.out.size)
  have HBB : Hid (w.heap.size + 1 < w1.heap.size) := by rw [Hid, hs1]; omega
  have hw12 : w1.heap.size ≤ w2.heap.size := hB2.size
  obtain ⟨n, hn⟩ : ∃ n, n = U.length := ⟨_, rfl⟩
  have HN2 := hid_mk hn
  rw [← hn] at HO2 hcap ⊢
  clear hup hO2 hF1 hR1 hB2 hn HW1 HB1 hs1
  go_wp2
  go_loopw [14] (fun a14 wq => ∃ t : Nat, t ≤ n ∧ a14 = .int .i64 (t : Int) ∧ w1.heap.size ≤ wq.heap.size ∧ Hid (FAt wq (w.heap.size + 1) 34 (addAll fz ((U.take t).flatMap fun a => putsL (wearL m a)))) ∧ Hid (FAt wq w.heap.size 34 fz) ∧ Hid (wq.ownsRow w1.heap.size 3 1 (.slice a n cap) n (intsV U)) ∧ Hid (Below w.heap.size w wq)) (fun a14 _ => n + 1 - (intOf a14).toNat)
  case atStart => exact ⟨0, Nat.zero_le _, rfl, hw12, HF2, HR2, HO2, HL2⟩
  case round =>
    obtain ⟨t, htn, rfl, hsq, HFt, HRt, HOt, HLt⟩ := hrel
    clear HF2 HR2 HO2 HL2
    by_cases htl : t < n
    · have hti : t < U.length := by rw [← HN2.out]; exact htl
      obtain ⟨g, ea, hc⟩ := own_cell3 HOt.out (intsV_at hti) htl
      subst ea
      have hd1 : decide ((t : Int) < (n : Int)) = true := decide_eq_true (by omega)
      have HTK : Hid ((U.take (t + 1)).flatMap (fun a => putsL (wearL m a)) = (U.take t).flatMap (fun a => putsL (wearL m a)) ++ putsL (wearL m U[t])) := by
        rw [Hid, List.take_add_one, List.getElem?_eq_getElem hti, List.flatMap_append]
        simp
      generalize U[t] = x at *
      have hky := HKY.out x wr HLt.out
      have HKX := hid_mk (HKL.out x)
      clear hti
      go_wp2_with (go_at_call 10; fail)
      refine hky.mono ?_
      rintro e2 w5 ⟨vk, rfl, hO5, hB5⟩
      have HF5 := hid_mk (HFt.out.keep hB5)
      have HR5 := hid_mk (HRt.out.keep hB5)
      have HU5 : Hid (w5.ownsRow w1.heap.size 3 1 (.slice (some ⟨g, 0, none⟩) n cap) n (intsV U)) := own_int HOt.out (.of hB5) HBB.out
      have HL5 : Hid (Below w.heap.size w w5) := HLt.out.trans (hB5.mono HLt.out.size)
      have hs5 : w1.heap.size ≤ w5.heap.size := Nat.le_trans hsq hB5.size
      have HBW : Hid (w.heap.size + 1 < wr.heap.size) := by have := HBB.out; rw [Hid]; omega
      obtain ⟨f1, hf1⟩ : ∃ f1, f1 = addAll fz ((U.take t).flatMap fun a => putsL (wearL m a)) := ⟨_, rfl⟩
      have hk1 : f1.ok := by rw [hf1]; exact ok_addAll _ fz_ok
      have HTF : Hid (addAll fz ((U.take (t + 1)).flatMap fun a => putsL (wearL m a)) = addAll f1 (putsL (wearL m x))) := by rw [Hid, HTK.out, addAll_cat, hf1]
      rw [← hf1] at HF5
      generalize putsL (wearL m x) = K at *
      have HO5 := hid_mk hO5
      obtain ⟨ak, ck, rfl, hkc, hkm, _⟩ := hO5.at
      obtain ⟨q, hq⟩ : ∃ q, q = K.length := ⟨_, rfl⟩
      have HQ := hid_mk hq
      rw [← hq] at HO5 hkc ⊢
      clear hky hO5 hB5 hf1 HTK HFt HRt HOt HLt hc hq
      go_wp2
      go_loopw [22] (fun a22 wq => ∃ s : Nat, s ≤ q ∧ a22 = .int .i64 (s : Int) ∧ Hid (FAt wq (w.heap.size + 1) 34 (addAll f1 (K.take s))) ∧ Hid (KeepX (w.heap.size + 1) w5 wq)) (fun a22 _ => q + 1 - (intOf a22).toNat)
      case atStart => exact ⟨0, Nat.zero_le _, rfl, HF5, KeepX.of (Below.refl _ _)⟩
      case round =>
        obtain ⟨s, hsq2, rfl, HFs, HXs⟩ := hrel
        clear HF5
        by_cases hsl : s < q
        · have hsi : s < K.length := by rw [← HQ.out]; exact hsl
          obtain ⟨a2, c2, e2, _, _, hcell⟩ := (HXs.out.own HO5.out HBW.out).at
          obtain ⟨gk, e3, _, hck⟩ := hcell s hsi
          have ea2 : ak = a2 := by cases e2; rfl
          clear e2
          subst ea2
          subst e3
          have hd2 : decide ((s : Int) < (q : Int)) = true := decide_eq_true (by omega)
          have HTS : Hid (addAll f1 (K.take (s + 1)) = (addAll f1 (K.take s)).add K[s]) := by
            rw [Hid, List.take_add_one, List.getElem?_eq_getElem hsi, Option.toList_some, addAll_app]
          have hkl : K[s] < 4294967296 := HKX.out _ (List.getElem_mem hsi)
          generalize K[s] = k at *
          have hfo : (addAll f1 (K.take s)).ok := ok_addAll _ hk1
          generalize addAll f1 (K.take s) = f2 at *
          obtain ⟨⟨k0, k1, k2, k3⟩, _⟩ := HFs.out.cells
          have had := radd_any f2 hfo k hkl wr
          generalize f2.add k = f3 at *
          unfold Flt.v at had
          clear hsi hcell hfo
          go_wp2_with (go_at_call 39; fail)
          refine had.mono ?_
          rintro e4 w7 ⟨rfl, hB7⟩
          have HF7 := hid_mk (HFs.out.keep hB7)
          have HX7 : Hid (KeepX (w.heap.size + 1) w5 w7) := HXs.out.trans (KeepX.of hB7)
          clear had hB7 k0 k1 k2 k3 hck HFs HXs
          obtain ⟨⟨k0, k1, k2, k3⟩, g0, g1, g2, g3⟩ := HF7.out.cells
          go_wp2
          have hr := HF7.out.put f3
          have hX : KeepX (w.heap.size + 1) w5 (put4 w7 (w.heap.size + 1) f3) := HX7.out.trans (put4_keep f3)
          unfold put4 at hr hX
          exact ⟨⟨s + 1, by omega, by go_num, by rw [Hid, HTS.out]; exact hr, hX⟩, by simp only [intOf]; omega⟩
        · have hse : s = q := by omega
          subst hse
          have hd2 : decide ((s : Int) < (s : Int)) = false := decide_eq_false (by omega)
          have HFE : Hid (FAt wr (w.heap.size + 1) 34 (addAll fz ((U.take (t + 1)).flatMap fun a => putsL (wearL m a)))) := by
            rw [Hid, HTF.out]
            have := HFs.out
            rwa [HQ.out, List.take_length] at this
          have HRE : Hid (FAt wr w.heap.size 34 fz) := (HXs.out.block _ HR5.out.lt (by omega)).trans HR5.out
          have HUE := hid_mk (HXs.out.int HU5.out HBB.out)
          have HLE2 : Hid (Below w.heap.size w wr) := HL5.out.trans (HXs.out.below (by omega) HL5.out.size)
          have hsE : w1.heap.size ≤ wr.heap.size := Nat.le_trans hs5 HXs.out.size
          clear HFs HXs HR5 HU5 HL5 HTF HQ HO5
          go_wp2
          exact ⟨⟨t + 1, by omega, by go_num, hsE, HFE, HRE, HUE, HLE2⟩, by simp only [intOf]; omega⟩
    · have hte : t = n := by omega
      subst hte
      obtain ⟨r, hr⟩ : ∃ r, r = addAll fz ((U.take t).flatMap fun a => putsL (wearL m a)) := ⟨_, rfl⟩
      have HE : Hid (addAll fz (ofR m id) = r) := by rw [Hid, hr, HOF.out, HN2.out, List.take_length]
      rw [← hr] at HFt
      obtain ⟨⟨k0, k1, k2, k3⟩, _⟩ := HFt.out.cells
      obtain ⟨_, f0, f1, f2, f3⟩ := HRt.out.cells
      have HRR := HRt
      have hd1 : decide ((t : Int) < (t : Int)) = false := decide_eq_false (by omega)
      clear hr HKY HKL HOF HOt HRt
      go_wp2
      have hj := (HRR.out.put r).cells.1
      have hB := put4_below HLt.out (Nat.le_refl _) r
      unfold put4 at hj hB
      generalize (((wr.setCell ⟨w.heap.size, 0, none⟩ (.int .u64 (r.a : Int))).setCell ⟨w.heap.size, 1, none⟩ (.int .u64 (r.b : Int))).setCell ⟨w.heap.size, 2, none⟩ (.int .u64 (r.c : Int))).setCell ⟨w.heap.size, 3, none⟩ (.int .u64 (r.d : Int)) = WW at *
      obtain ⟨j0, j1, j2, j3⟩ := hj
      clear k0 k1 k2 k3 f0 f1 f2 f3
      exact bodyPost_ret (v := r.v) (by simp [results, Tryz.results12, go_sem, Flt.v, j0, j1, j2, j3]) rfl ⟨by rw [HE.out], hB⟩
end Go.Proofs.YtdiljkmlneeboaaGreat.B
namespace Go.Proofs.YtdiljkmlneeboaaGreat.B
open Go.RowKit Go.Proofs.YtdiljkmlneeboaaGreat.N
set_option maxRecDepth 100000

theorem TagOk.act {m m' : M} {nx n1 r e : Int} {a : Act6} (h : TagOk m) (hr : ActR m nx a m' n1 r e) : TagOk m' := by
  rcases hr with ⟨_, ⟨he, ⟨i, hi, rfl⟩, _⟩ | ⟨_, rfl, _⟩⟩ | ⟨_, _, _, ⟨_, ⟨h0, _, rfl⟩, _⟩ | ⟨_, rfl, _⟩⟩ | ⟨_, _, _, h0, _, ⟨_, ⟨i, _, rfl⟩, _⟩ | ⟨_, rfl, _⟩⟩ | ⟨_, _, _, ⟨_, rfl, _⟩ | ⟨_, rfl, _⟩⟩ | ⟨_, _, _, ⟨_, rfl, _⟩ | ⟨_, rfl, _⟩⟩ | ⟨_, rfl, _⟩
  · obtain ⟨j, e0, _, hp, _, hnm, _⟩ := ok_insErr he
    intro n x hx
    unfold insM at hx
    rw [hp] at hx
    rcases mset_some hx with ⟨_, rfl⟩ | ⟨_, hx⟩
    · exact h _ e0 hp
    · rcases mset_some hx with ⟨_, rfl⟩ | ⟨_, hx⟩
      · exact nameZ_le hnm
      · exact h _ _ hx
  · exact h
  · intro n x hx
    obtain ⟨_, e0, h1, rfl⟩ := cutM_some hx
    exact h _ e0 h1
  · exact h
  · intro n x hx
    obtain ⟨e0, h1, rfl⟩ := mvM_some hx
    have : (mvE a.x a.y i n e0).tag = e0.tag := by unfold mvE; (repeat' split) <;> rfl
    rw [this]
    exact h _ _ h1
  · exact h
  · intro n x hx
    unfold satM at hx
    cases h1 : m a.x with
    | none =>
      rw [h1] at hx
      exact h _ _ hx
    | some e0 =>
      rw [h1] at hx
      rcases mset_some hx with ⟨_, rfl⟩ | ⟨_, hx⟩
      · exact h _ e0 h1
      · exact h _ _ hx
  · exact h
  · intro n x hx
    unfold datM at hx
    cases h1 : m a.x with
    | none =>
      rw [h1] at hx
      exact h _ _ hx
    | some e0 =>
      rw [h1] at hx
      rcases mset_some hx with ⟨_, rfl⟩ | ⟨_, hx⟩
      · exact h _ e0 h1
      · exact h _ _ hx
  · exact h
  · exact h
theorem TagOk.acts : ∀ {xs : List Act6} {m m' : M} {nx n1 : Int}, TagOk m → ActsR m nx xs m' n1 → TagOk m'
  | [], _, _, _, _, h, hr => by
    obtain ⟨rfl, rfl⟩ := hr
    exact h
  | _ :: _, _, _, _, _, h, hr => by
    obtain ⟨m1, n1, r, e, h1, h2⟩ := hr
    exact (h.act h1).acts h2
theorem tagOk_M0 : TagOk M0 := by
  intro n e h
  rcases mset_some h with ⟨_, rfl⟩ | ⟨_, h⟩
  · decide
  · cases h
end Go.Proofs.YtdiljkmlneeboaaGreat.B
namespace Go.Proofs.YtdiljkmlneeboaaGreat.B
open Go.RowKit Go.Proofs.YtdiljkmlneeboaaGreat.N
set_option maxRecDepth 100000

theorem RdK.keep {W W' : World} {v : Value} {l : List Nat} (h : RdK W v l) (hb : Below W.heap.size W W') : RdK W' v l := by
  obtain ⟨a, c, h1, h2, h3, h4⟩ := h
  refine ⟨a, c, h1, h2, h3, fun t ht => ?_⟩
  obtain ⟨g, o, e, hg, hc⟩ := h4 t ht
  exact ⟨g, o, e, Nat.lt_of_lt_of_le hg hb.size, (hb.cell (p := ⟨g, o + t, none⟩) hg).trans hc⟩

set_option maxHeartbeats 1000000 in
theorem trees_walk {W : World} {v : Value} {xs : List Act6} (hp : ActsIn W v xs) (id : Int) : Calls Tryz.prog 3 #[v, .int .i64 id] W fun e w' => e = .returned (.bool true) ∧ Below W.heap.size W w' := by
  have hlight := rlight_any hp 60 (by decide)
  have HLV : Hid (∀ w', Calls Tryz.prog 6 #[] w' fun e w'' => e = .returned (.bool true) ∧ Below w'.heap.size w' w'') := fun w' => lives_any w'
  have HTA : Hid (∀ w', Below W.heap.size W w' → xs.length ≤ 130 → _) := fun w' hw' hx => tree_any (W := w') (v := v) (xs := xs) ⟨hp.1.keep hw', hp.2⟩ hx
  obtain ⟨⟨av, cap, rfl, hcap, hmax, hx⟩, hsz⟩ := hp
  clear hx hsz
  go_enter Tryz.func3, Tryz.ntmps3
  go_wp2_with (go_at_call 5; fail)
  refine hlight.mono ?_
  rintro e w1 ⟨lb, rfl, hlen, hB1⟩
  have HB1 := hid_mk hB1
  clear hlight hB1
  cases lb with
  | false =>
    clear HTA
    go_wp2_with (go_at_call 6; refine (HLV.out _).mono ?_; rintro e w2 ⟨rfl, hB2⟩)
    go_ret
    exact ⟨rfl, HB1.out.trans (hB2.mono HB1.out.size)⟩
  | true =>
    have h80 := hlen rfl
    have hta := HTA.out w1 HB1.out (by omega)
    clear HTA hlen
    go_wp2_with (go_at_call 7; fail)
    refine hta.mono ?_
    rintro e w2 ⟨b, c, m, nx, L, rfl, hA, _, hTr, hRr, hB2⟩
    have hg : TagOk m := tagOk_M0.acts hA
    have hle : ∀ id nm, ((attrZ m id nm).getD ⟨#[]⟩).size ≤ 1000 := attr_le hTr
    have HB2 : Hid (Below W.heap.size W w2) := HB1.out.trans (hB2.mono HB1.out.size)
    have h9 := keys_any hTr hg id
    have H10 : Hid (∀ w', Below w2.heap.size w2 w' → Calls Tryz.prog 10 #[.pointer (some ⟨c, 0, none⟩), .int .i64 id] w' fun e w'' => ∃ v, e = .returned v ∧ OwnK w'' w'.heap.size v (putsL (wearL m id)) ∧ Below w'.heap.size w' w'') := fun w' h => rkeys_any (hRr.keep h) hg hle id
    have H11 : Hid (∀ w', Below w2.heap.size w2 w' → Calls Tryz.prog 11 #[.pointer (some ⟨b, 0, none⟩), .int .i64 id] w' fun e w'' => e = .returned (addAll fz (ofL m id)).v ∧ Below w'.heap.size w' w'') := fun w' h => of_any (hTr.keep h) hg id
    have H12 : Hid (∀ w', Below w2.heap.size w2 w' → Calls Tryz.prog 12 #[.pointer (some ⟨c, 0, none⟩), .int .i64 id] w' fun e w'' => e = .returned (addAll fz (ofL m id)).v ∧ Below w'.heap.size w' w'') := fun w' h => by rw [ofL_set]; exact rof_any (hRr.keep h) hg hle id
    generalize addAll fz (ofL m id) = r at *
    generalize putsL (wearL m id) = K at *
    have hE := fun W => rflt_eq W r r
    rw [eqb_self] at hE
    unfold Flt.v at H11 H12
    clear hta hA hTr hRr hB2 hg hle HB1
    go_wp2_with (go_at_call 9; fail)
    refine h9.mono ?_
    rintro e w3 ⟨v3, rfl, hR3, hB3⟩
    have h10 := H10.out w3 hB3
    clear h9 H10
    go_wp2_with (go_at_call 10; fail)
    refine h10.mono ?_
    rintro e w4 ⟨v4, rfl, hO4, hB4⟩
    have h8 := rsame_any (hR3.keep hB4) hO4.rd
    have hB24 : Below w2.heap.size w2 w4 := hB3.trans (hB4.mono hB3.size)
    rw [decide_eq_true rfl] at h8
    clear h10 hR3 hO4 hB3 hB4
    go_wp2_with (go_at_call 8; fail)
    refine h8.mono ?_
    rintro e w5 ⟨rfl, hB5⟩
    have hB25 : Below w2.heap.size w2 w5 := hB24.trans (hB5.mono hB24.size)
    have h11 := H11.out w5 hB25
    clear h8 H11 hB24 hB5
    go_wp2_with (go_at_call 11; fail)
    refine h11.mono ?_
    rintro e w6 ⟨rfl, hB6⟩
    have hB26 : Below w2.heap.size w2 w6 := hB25.trans (hB6.mono hB25.size)
    have h12 := H12.out w6 hB26
    clear h11 H12 hB25 hB6
    go_wp2_with (go_at_call 12; fail)
    refine h12.mono ?_
    rintro e w7 ⟨rfl, hB7⟩
    have HB7 : Hid (Below W.heap.size W w7) := HB2.out.trans ((hB26.trans (hB7.mono hB26.size)).mono HB2.out.size)
    clear h12 hB26 hB7
    go_wp2_with (go_at_call 6; refine (HLV.out _).mono ?_; rintro e w8 ⟨rfl, hB8⟩)
    go_ret
    exact ⟨rfl, HB7.out.trans (hB8.mono HB7.out.size)⟩
end Go.Proofs.YtdiljkmlneeboaaGreat.B
