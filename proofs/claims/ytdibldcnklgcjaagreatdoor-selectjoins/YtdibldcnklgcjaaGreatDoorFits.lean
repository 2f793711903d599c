/- The tokens of a list of characters: what token.Tokens gives. -/
import Derived.Test.YtdibldcnklgcjaaGreatDoorSingle
import Derived.Deep.LoopGhost
import Derived.Laws.EntriesVeiled
namespace Go.Proofs.YtdibldcnklgcjaaGreatDoor
open Go.RowKit
set_option maxRecDepth 100000

/-- Does the way number k fit? -/
def fits (l : List Int) : Nat → Bool
  | 0 => standsB [47, 42] l
  | 1 => blankZ (hd l 0)
  | 2 => quoteB l
  | 3 => hashB l
  | 4 => numB l
  | 5 => (standsB [45, 45, 62] l || standsB [60, 33, 45, 45] l)
  | 6 => nameB l
  | 7 => atB l
  | 8 => true
  | _ => true
/-- None of the first k ways fits. -/
def noneFits (l : List Int) (k : Nat) : Prop := ∀ j, j < k → fits l j = false

section
variable {w w1 w2 : World} {b : Nat} {v out : Value} {xs l l' : List Int} {ts : List Tok}

/-- What a way does: false, and all is as it was; or true, and the next token is told. -/
def WayPost (w : World) (b : Nat) (v out : Value) (xs l : List Int) (ts : List Tok) (k : Nat) (w' : World) : Prop :=
  (fits l k = false → St w' b v out xs l ts) ∧ (fits l k = true → ∃ out', St w' b v out' xs (oneZ l).2 (ts ++ (oneZ l).1.toList)) ∧ Below b w w'

theorem way_of_no {k f : Nat} (hc : fits l k = false) (h : Calls Tryz.prog f #[.pointer (some ⟨b, 0, none⟩)] w fun e w' => e = .returned (.bool false) ∧ St w' b v out xs l ts ∧ Below b w w') :
    Calls Tryz.prog f #[.pointer (some ⟨b, 0, none⟩)] w fun e w' => e = .returned (.bool (fits l k)) ∧ WayPost w b v out xs l ts k w' := by
  refine h.mono ?_
  rintro e w' ⟨rfl, h1, h2⟩
  exact ⟨by rw [hc], fun _ => h1, fun h3 => by rw [hc] at h3; (cases h3), h2⟩
theorem way_of_yes {k f : Nat} {t : Tok} {r : List Int} (hc : fits l k = true) (ho : oneZ l = (some t, r)) (h : Calls Tryz.prog f #[.pointer (some ⟨b, 0, none⟩)] w fun e w' => e = .returned (.bool true) ∧ ∃ out', St w' b v out' xs r (ts ++ [t]) ∧ Below b w w') :
    Calls Tryz.prog f #[.pointer (some ⟨b, 0, none⟩)] w fun e w' => e = .returned (.bool (fits l k)) ∧ WayPost w b v out xs l ts k w' := by
  refine h.mono ?_
  rintro e w' ⟨rfl, out', h1, h2⟩
  exact ⟨by rw [hc], fun h3 => by rw [hc] at h3; (cases h3), fun _ => ⟨out', by rw [ho]; exact h1⟩, h2⟩
theorem way_0 (hs : St w b v out xs l ts) (fx : Fine xs) (hts : ts.length ≤ 1000000000) (_hn : noneFits l 0) (_hne : l ≠ []) :
    Calls Tryz.prog 19 #[.pointer (some ⟨b, 0, none⟩)] w fun e w' => e = .returned (.bool (fits l 0)) ∧ WayPost w b v out xs l ts 0 w' := by
  cases hc : standsB [47, 42] l
  · exact way_of_no (k := 0) hc (comment_no hs fx hc)
  · have ho : oneZ l = (none, comR (l.drop 2)) := by
      unfold oneZ
      rw [if_pos hc]
    have hc' : fits l 0 = true := hc
    refine (comment_yes hs fx hts hc).mono ?_
    rintro e w' ⟨rfl, h1, h2⟩
    exact ⟨by rw [hc'], fun h3 => by rw [hc'] at h3; (cases h3), fun _ => ⟨out, by rw [ho]; simpa using h1⟩, h2⟩
theorem way_1 (hs : St w b v out xs l ts) (fx : Fine xs) (hts : ts.length ≤ 1000000000) (hn : noneFits l 1) (_hne : l ≠ []) :
    Calls Tryz.prog 20 #[.pointer (some ⟨b, 0, none⟩)] w fun e w' => e = .returned (.bool (fits l 1)) ∧ WayPost w b v out xs l ts 1 w' := by
  have n0 : standsB [47, 42] l = false := hn 0 (by omega)
  cases hc : blankZ (hd l 0)
  · exact way_of_no (k := 1) hc (space_no hs fx hc)
  · have ho : oneZ l = (some (plainTok 13 []), blanksR l) := by
      unfold oneZ
      rw [if_neg (by simp [n0]), if_pos hc]
    exact way_of_yes (k := 1) hc ho (space_yes hs fx hts hc)
theorem way_2 (hs : St w b v out xs l ts) (fx : Fine xs) (hts : ts.length ≤ 1000000000) (hn : noneFits l 2) (_hne : l ≠ []) :
    Calls Tryz.prog 21 #[.pointer (some ⟨b, 0, none⟩)] w fun e w' => e = .returned (.bool (fits l 2)) ∧ WayPost w b v out xs l ts 2 w' := by
  have n0 : standsB [47, 42] l = false := hn 0 (by omega)
  have n1 : blankZ (hd l 0) = false := hn 1 (by omega)
  cases hc : quoteB l
  · exact way_of_no (k := 2) hc (quoted_no hs fx hc)
  · have ho : oneZ l = (some (strZ l).1, (strZ l).2) := by
      unfold oneZ
      rw [if_neg (by simp [n0]), if_neg (by simp [n1]), if_pos hc]
      rfl
    exact way_of_yes (k := 2) hc ho (quoted_yes hs fx hts hc)
theorem way_3 (hs : St w b v out xs l ts) (fx : Fine xs) (hts : ts.length ≤ 1000000000) (hn : noneFits l 3) (_hne : l ≠ []) :
    Calls Tryz.prog 22 #[.pointer (some ⟨b, 0, none⟩)] w fun e w' => e = .returned (.bool (fits l 3)) ∧ WayPost w b v out xs l ts 3 w' := by
  have n0 : standsB [47, 42] l = false := hn 0 (by omega)
  have n1 : blankZ (hd l 0) = false := hn 1 (by omega)
  have n2 : quoteB l = false := hn 2 (by omega)
  cases hc : hashB l
  · exact way_of_no (k := 3) hc (hash_no hs fx hc)
  · have ho : oneZ l = (some (hashZ (l.drop 1)).1, (hashZ (l.drop 1)).2) := by
      unfold oneZ
      rw [if_neg (by simp [n0]), if_neg (by simp [n1]), if_neg (by simp [n2]), if_pos hc]
      rfl
    exact way_of_yes (k := 3) hc ho (hash_yes hs fx hts hc)
theorem way_4 (hs : St w b v out xs l ts) (fx : Fine xs) (hts : ts.length ≤ 1000000000) (hn : noneFits l 4) (_hne : l ≠ []) :
    Calls Tryz.prog 23 #[.pointer (some ⟨b, 0, none⟩)] w fun e w' => e = .returned (.bool (fits l 4)) ∧ WayPost w b v out xs l ts 4 w' := by
  have n0 : standsB [47, 42] l = false := hn 0 (by omega)
  have n1 : blankZ (hd l 0) = false := hn 1 (by omega)
  have n2 : quoteB l = false := hn 2 (by omega)
  have n3 : hashB l = false := hn 3 (by omega)
  cases hc : numB l
  · exact way_of_no (k := 4) hc (number_no hs fx hc)
  · have ho : oneZ l = (some (numZ l).1, (numZ l).2) := by
      unfold oneZ
      rw [if_neg (by simp [n0]), if_neg (by simp [n1]), if_neg (by simp [n2]), if_neg (by simp [n3]), if_pos hc]
      rfl
    exact way_of_yes (k := 4) hc ho (number_yes hs fx hts hc)
theorem way_5 (hs : St w b v out xs l ts) (fx : Fine xs) (hts : ts.length ≤ 1000000000) (hn : noneFits l 5) (_hne : l ≠ []) :
    Calls Tryz.prog 24 #[.pointer (some ⟨b, 0, none⟩)] w fun e w' => e = .returned (.bool (fits l 5)) ∧ WayPost w b v out xs l ts 5 w' := by
  have n0 : standsB [47, 42] l = false := hn 0 (by omega)
  have n1 : blankZ (hd l 0) = false := hn 1 (by omega)
  have n2 : quoteB l = false := hn 2 (by omega)
  have n3 : hashB l = false := hn 3 (by omega)
  have n4 : numB l = false := hn 4 (by omega)
  cases h3 : standsB [45, 45, 62] l
  · cases h4 : standsB [60, 33, 45, 45] l
    · have hc : fits l 5 = false := by show (standsB [45, 45, 62] l || standsB [60, 33, 45, 45] l) = false; rw [h3, h4]; rfl
      exact way_of_no (k := 5) hc (markup_no hs fx h3 h4)
    · have hc : fits l 5 = true := by show (standsB [45, 45, 62] l || standsB [60, 33, 45, 45] l) = true; rw [h3, h4]; rfl
      have ho : oneZ l = (some (plainTok 14 []), l.drop 4) := by
        unfold oneZ
        rw [if_neg (by simp [n0]), if_neg (by simp [n1]), if_neg (by simp [n2]), if_neg (by simp [n3]), if_neg (by simp [n4]), if_neg (by simp [h3]), if_pos h4]
      exact way_of_yes (k := 5) hc ho (cdo_yes hs fx hts h3 h4)
  · have hc : fits l 5 = true := by show (standsB [45, 45, 62] l || standsB [60, 33, 45, 45] l) = true; rw [h3]; rfl
    have ho : oneZ l = (some (plainTok 15 []), l.drop 3) := by
      unfold oneZ
      rw [if_neg (by simp [n0]), if_neg (by simp [n1]), if_neg (by simp [n2]), if_neg (by simp [n3]), if_neg (by simp [n4]), if_pos h3]
    exact way_of_yes (k := 5) hc ho (cdc_yes hs fx hts h3)
theorem way_6 (hs : St w b v out xs l ts) (fx : Fine xs) (hts : ts.length ≤ 1000000000) (hn : noneFits l 6) (_hne : l ≠ []) :
    Calls Tryz.prog 25 #[.pointer (some ⟨b, 0, none⟩)] w fun e w' => e = .returned (.bool (fits l 6)) ∧ WayPost w b v out xs l ts 6 w' := by
  have n0 : standsB [47, 42] l = false := hn 0 (by omega)
  have n1 : blankZ (hd l 0) = false := hn 1 (by omega)
  have n2 : quoteB l = false := hn 2 (by omega)
  have n3 : hashB l = false := hn 3 (by omega)
  have n4 : numB l = false := hn 4 (by omega)
  have n5 : (standsB [45, 45, 62] l || standsB [60, 33, 45, 45] l) = false := hn 5 (by omega)
  obtain ⟨n5a, n5b⟩ := Bool.or_eq_false_iff.1 n5
  cases hc : nameB l
  · exact way_of_no (k := 6) hc (word_no hs fx hc)
  · have ho : oneZ l = (some (wordZ l).1, (wordZ l).2) := by
      unfold oneZ
      rw [if_neg (by simp [n0]), if_neg (by simp [n1]), if_neg (by simp [n2]), if_neg (by simp [n3]), if_neg (by simp [n4]), if_neg (by simp [n5a]), if_neg (by simp [n5b]), if_pos hc]
      rfl
    exact way_of_yes (k := 6) hc ho (word_yes hs fx hts hc)
theorem way_7 (hs : St w b v out xs l ts) (fx : Fine xs) (hts : ts.length ≤ 1000000000) (hn : noneFits l 7) (_hne : l ≠ []) :
    Calls Tryz.prog 26 #[.pointer (some ⟨b, 0, none⟩)] w fun e w' => e = .returned (.bool (fits l 7)) ∧ WayPost w b v out xs l ts 7 w' := by
  have n0 : standsB [47, 42] l = false := hn 0 (by omega)
  have n1 : blankZ (hd l 0) = false := hn 1 (by omega)
  have n2 : quoteB l = false := hn 2 (by omega)
  have n3 : hashB l = false := hn 3 (by omega)
  have n4 : numB l = false := hn 4 (by omega)
  have n5 : (standsB [45, 45, 62] l || standsB [60, 33, 45, 45] l) = false := hn 5 (by omega)
  obtain ⟨n5a, n5b⟩ := Bool.or_eq_false_iff.1 n5
  have n6 : nameB l = false := hn 6 (by omega)
  cases hc : atB l
  · exact way_of_no (k := 7) hc (keyword_no hs fx hc)
  · have ho : oneZ l = (some (plainTok 3 (nameT (l.drop 1) 0)), nameR (l.drop 1) 0) := by
      unfold oneZ
      rw [if_neg (by simp [n0]), if_neg (by simp [n1]), if_neg (by simp [n2]), if_neg (by simp [n3]), if_neg (by simp [n4]), if_neg (by simp [n5a]), if_neg (by simp [n5b]), if_neg (by simp [n6]), if_pos hc]
    exact way_of_yes (k := 7) hc ho (keyword_yes hs fx hts hc)
theorem way_8 (hs : St w b v out xs l ts) (fx : Fine xs) (hts : ts.length ≤ 1000000000) (hn : noneFits l 8) (hne : l ≠ []) :
    Calls Tryz.prog 27 #[.pointer (some ⟨b, 0, none⟩)] w fun e w' => e = .returned (.bool (fits l 8)) ∧ WayPost w b v out xs l ts 8 w' := by
  have n0 : standsB [47, 42] l = false := hn 0 (by omega)
  have n1 : blankZ (hd l 0) = false := hn 1 (by omega)
  have n2 : quoteB l = false := hn 2 (by omega)
  have n3 : hashB l = false := hn 3 (by omega)
  have n4 : numB l = false := hn 4 (by omega)
  have n5 : (standsB [45, 45, 62] l || standsB [60, 33, 45, 45] l) = false := hn 5 (by omega)
  obtain ⟨n5a, n5b⟩ := Bool.or_eq_false_iff.1 n5
  have n6 : nameB l = false := hn 6 (by omega)
  have n7 : atB l = false := hn 7 (by omega)
  obtain ⟨c, t, hl⟩ := List.exists_cons_of_ne_nil hne
  have ho : oneZ l = (some (singleZ c), t) := by
    unfold oneZ
    rw [if_neg (by simp [n0]), if_neg (by simp [n1]), if_neg (by simp [n2]), if_neg (by simp [n3]), if_neg (by simp [n4]), if_neg (by simp [n5a]), if_neg (by simp [n5b]), if_neg (by simp [n6]), if_neg (by simp [n7]), hl]
    rfl
  exact way_of_yes (k := 8) rfl ho (single_yes hs fx hts c t hl)

theorem st_start (a : Option Addr) (cap : Nat) (w : World) (hr : RowAt .i32 w (.slice a xs.length cap) xs) (hlow : ∀ ad, a = some ad → ad.block < w.heap.size) :
    St ((w.alloc (.cells #[.slice a xs.length cap, .int .i64 0, .slice none 0 0] 72)).alloc (.cells waysV 75)) w.heap.size (.slice a xs.length cap) (.slice none 0 0) xs xs [] := by
  have hb : ((w.alloc (.cells #[.slice a xs.length cap, .int .i64 0, .slice none 0 0] 72)).alloc (.cells waysV 75)).heap[w.heap.size]? = some (.cells #[.slice a xs.length cap, .int .i64 0, .slice none 0 0] 72 (0, 0)) :=
    (Below.heap_alloc _ _ _ (by simp)).trans (heap_alloc_new w _)
  have hB : Below w.heap.size w ((w.alloc (.cells #[.slice a xs.length cap, .int .i64 0, .slice none 0 0] 72)).alloc (.cells waysV 75)) := ((Below.refl _ w).alloc (Nat.le_refl _) _).alloc (by simp) _
  refine ⟨⟨0, hb, hr.below hB, slice_no, Nat.zero_le _, rfl⟩, ⟨rfl, .inl ⟨rfl, rfl⟩⟩, ?_, ?_⟩
  · intro ad n c h
    cases h
    exact hlow ad rfl
  · have h := heap_alloc_new (w.alloc (.cells #[.slice a xs.length cap, .int .i64 0, .slice none 0 0] 72)) (.cells waysV 75)
    have e : (w.alloc (.cells #[.slice a xs.length cap, .int .i64 0, .slice none 0 0] 72)).heap.size = w.heap.size + 1 := by simp
    rw [e] at h
    exact h
end
end Go.Proofs.YtdibldcnklgcjaaGreatDoor
