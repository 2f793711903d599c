/- The tokens of a list of characters: what token.Tokens gives. What token.Tokens gives: the tokens of the characters. What gouachelaw02.cut gives: the tokens of a text's characters. -/
import Derived.Test.YtbfgnfcecfjlnaaGreatDoorSingle
import Derived.Deep.LoopGhost
import Derived.Laws.EntriesVeiled
namespace Go.Proofs.YtbfgnfcecfjlnaaGreatDoor
open Go.RowKit
set_option maxRecDepth 100000

/-- Does the way number k fit? -/
def fits (l : List Int) : Nat → Bool
  | 0 => standsB [47, 42] l
  | 1 => blankZ (hd l 0)
  | 2 => quoteB l
  | 3 => hashB l
  | 4 => numB l
  | 5 => (standsB [45, 45, 62] l || standsB [60, 33, 45, 45] l)
  | 6 => nameB l
  | 7 => atB l
  | 8 => true
  | _ => true
/-- None of the first k ways fits. -/
def noneFits (l : List Int) (k : Nat) : Prop := ∀ j, j < k → fits l j = false

section
variable {w w1 w2 : World} {b : Nat} {v out : Value} {xs l l' : List Int} {ts : List Tok}

/-- What a way does: false, and all is as it was; or true, and the next token is told. -/
def WayPost (w : World) (b : Nat) (v out : Value) (xs l : List Int) (ts : List Tok) (k : Nat) (w' : World) : Prop :=
  (fits l k = false → St w' b v out xs l ts) ∧ (fits l k = true → ∃ out', St w' b v out' xs (oneZ l).2 (ts ++ (oneZ l).1.toList)) ∧ Below b w w'

theorem way_of_no {k f : Nat} (hc : fits l k = false) (h : Calls Tryz.prog f #[.pointer (some ⟨b, 0, none⟩)] w fun e w' => e = .returned (.bool false) ∧ St w' b v out xs l ts ∧ Below b w w') :
    Calls Tryz.prog f #[.pointer (some ⟨b, 0, none⟩)] w fun e w' => e = .returned (.bool (fits l k)) ∧ WayPost w b v out xs l ts k w' := by
  refine h.mono ?_
  rintro e w' ⟨rfl, h1, h2⟩
  exact ⟨by rw [hc], fun _ => h1, fun h3 => by rw [hc] at h3; (cases h3), h2⟩
theorem way_of_yes {k f : Nat} {t : Tok} {r : List Int} (hc : fits l k = true) (ho : oneZ l = (some t, r)) (h : Calls Tryz.prog f #[.pointer (some ⟨b, 0, none⟩)] w fun e w' => e = .returned (.bool true) ∧ ∃ out', St w' b v out' xs r (ts ++ [t]) ∧ Below b w w') :
    Calls Tryz.prog f #[.pointer (some ⟨b, 0, none⟩)] w fun e w' => e = .returned (.bool (fits l k)) ∧ WayPost w b v out xs l ts k w' := by
  refine h.mono ?_
  rintro e w' ⟨rfl, out', h1, h2⟩
  exact ⟨by rw [hc], fun h3 => by rw [hc] at h3; (cases h3), fun _ => ⟨out', by rw [ho]; exact h1⟩, h2⟩
theorem way_0 (hs : St w b v out xs l ts) (fx : Fine xs) (hts : ts.length ≤ 1000000000) (_hn : noneFits l 0) (_hne : l ≠ []) :
    Calls Tryz.prog 20 #[.pointer (some ⟨b, 0, none⟩)] w fun e w' => e = .returned (.bool (fits l 0)) ∧ WayPost w b v out xs l ts 0 w' := by
  cases hc : standsB [47, 42] l
  · exact way_of_no (k := 0) hc (comment_no hs fx hc)
  · have ho : oneZ l = (none, comR (l.drop 2)) := by
      unfold oneZ
      rw [if_pos hc]
    have hc' : fits l 0 = true := hc
    refine (comment_yes hs fx hts hc).mono ?_
    rintro e w' ⟨rfl, h1, h2⟩
    exact ⟨by rw [hc'], fun h3 => by rw [hc'] at h3; (cases h3), fun _ => ⟨out, by rw [ho]; simpa using h1⟩, h2⟩
theorem way_1 (hs : St w b v out xs l ts) (fx : Fine xs) (hts : ts.length ≤ 1000000000) (hn : noneFits l 1) (_hne : l ≠ []) :
    Calls Tryz.prog 21 #[.pointer (some ⟨b, 0, none⟩)] w fun e w' => e = .returned (.bool (fits l 1)) ∧ WayPost w b v out xs l ts 1 w' := by
  have n0 : standsB [47, 42] l = false := hn 0 (by omega)
  cases hc : blankZ (hd l 0)
  · exact way_of_no (k := 1) hc (space_no hs fx hc)
  · have ho : oneZ l = (some (plainTok 13 []), blanksR l) := by
      unfold oneZ
      rw [if_neg (by simp [n0]), if_pos hc]
    exact way_of_yes (k := 1) hc ho (space_yes hs fx hts hc)
theorem way_2 (hs : St w b v out xs l ts) (fx : Fine xs) (hts : ts.length ≤ 1000000000) (hn : noneFits l 2) (_hne : l ≠ []) :
    Calls Tryz.prog 22 #[.pointer (some ⟨b, 0, none⟩)] w fun e w' => e = .returned (.bool (fits l 2)) ∧ WayPost w b v out xs l ts 2 w' := by
  have n0 : standsB [47, 42] l = false := hn 0 (by omega)
  have n1 : blankZ (hd l 0) = false := hn 1 (by omega)
  cases hc : quoteB l
  · exact way_of_no (k := 2) hc (quoted_no hs fx hc)
  · have ho : oneZ l = (some (strZ l).1, (strZ l).2) := by
      unfold oneZ
      rw [if_neg (by simp [n0]), if_neg (by simp [n1]), if_pos hc]
      rfl
    exact way_of_yes (k := 2) hc ho (quoted_yes hs fx hts hc)
theorem way_3 (hs : St w b v out xs l ts) (fx : Fine xs) (hts : ts.length ≤ 1000000000) (hn : noneFits l 3) (_hne : l ≠ []) :
    Calls Tryz.prog 23 #[.pointer (some ⟨b, 0, none⟩)] w fun e w' => e = .returned (.bool (fits l 3)) ∧ WayPost w b v out xs l ts 3 w' := by
  have n0 : standsB [47, 42] l = false := hn 0 (by omega)
  have n1 : blankZ (hd l 0) = false := hn 1 (by omega)
  have n2 : quoteB l = false := hn 2 (by omega)
  cases hc : hashB l
  · exact way_of_no (k := 3) hc (hash_no hs fx hc)
  · have ho : oneZ l = (some (hashZ (l.drop 1)).1, (hashZ (l.drop 1)).2) := by
      unfold oneZ
      rw [if_neg (by simp [n0]), if_neg (by simp [n1]), if_neg (by simp [n2]), if_pos hc]
      rfl
    exact way_of_yes (k := 3) hc ho (hash_yes hs fx hts hc)
theorem way_4 (hs : St w b v out xs l ts) (fx : Fine xs) (hts : ts.length ≤ 1000000000) (hn : noneFits l 4) (_hne : l ≠ []) :
    Calls Tryz.prog 24 #[.pointer (some ⟨b, 0, none⟩)] w fun e w' => e = .returned (.bool (fits l 4)) ∧ WayPost w b v out xs l ts 4 w' := by
  have n0 : standsB [47, 42] l = false := hn 0 (by omega)
  have n1 : blankZ (hd l 0) = false := hn 1 (by omega)
  have n2 : quoteB l = false := hn 2 (by omega)
  have n3 : hashB l = false := hn 3 (by omega)
  cases hc : numB l
  · exact way_of_no (k := 4) hc (number_no hs fx hc)
  · have ho : oneZ l = (some (numZ l).1, (numZ l).2) := by
      unfold oneZ
      rw [if_neg (by simp [n0]), if_neg (by simp [n1]), if_neg (by simp [n2]), if_neg (by simp [n3]), if_pos hc]
      rfl
    exact way_of_yes (k := 4) hc ho (number_yes hs fx hts hc)
theorem way_5 (hs : St w b v out xs l ts) (fx : Fine xs) (hts : ts.length ≤ 1000000000) (hn : noneFits l 5) (_hne : l ≠ []) :
    Calls Tryz.prog 25 #[.pointer (some ⟨b, 0, none⟩)] w fun e w' => e = .returned (.bool (fits l 5)) ∧ WayPost w b v out xs l ts 5 w' := by
  have n0 : standsB [47, 42] l = false := hn 0 (by omega)
  have n1 : blankZ (hd l 0) = false := hn 1 (by omega)
  have n2 : quoteB l = false := hn 2 (by omega)
  have n3 : hashB l = false := hn 3 (by omega)
  have n4 : numB l = false := hn 4 (by omega)
  cases h3 : standsB [45, 45, 62] l
  · cases h4 : standsB [60, 33, 45, 45] l
    · have hc : fits l 5 = false := by show (standsB [45, 45, 62] l || standsB [60, 33, 45, 45] l) = false; rw [h3, h4]; rfl
      exact way_of_no (k := 5) hc (markup_no hs fx h3 h4)
    · have hc : fits l 5 = true := by show (standsB [45, 45, 62] l || standsB [60, 33, 45, 45] l) = true; rw [h3, h4]; rfl
      have ho : oneZ l = (some (plainTok 14 []), l.drop 4) := by
        unfold oneZ
        rw [if_neg (by simp [n0]), if_neg (by simp [n1]), if_neg (by simp [n2]), if_neg (by simp [n3]), if_neg (by simp [n4]), if_neg (by simp [h3]), if_pos h4]
      exact way_of_yes (k := 5) hc ho (cdo_yes hs fx hts h3 h4)
  · have hc : fits l 5 = true := by show (standsB [45, 45, 62] l || standsB [60, 33, 45, 45] l) = true; rw [h3]; rfl
    have ho : oneZ l = (some (plainTok 15 []), l.drop 3) := by
      unfold oneZ
      rw [if_neg (by simp [n0]), if_neg (by simp [n1]), if_neg (by simp [n2]), if_neg (by simp [n3]), if_neg (by simp [n4]), if_pos h3]
    exact way_of_yes (k := 5) hc ho (cdc_yes hs fx hts h3)
theorem way_6 (hs : St w b v out xs l ts) (fx : Fine xs) (hts : ts.length ≤ 1000000000) (hn : noneFits l 6) (_hne : l ≠ []) :
    Calls Tryz.prog 26 #[.pointer (some ⟨b, 0, none⟩)] w fun e w' => e = .returned (.bool (fits l 6)) ∧ WayPost w b v out xs l ts 6 w' := by
  have n0 : standsB [47, 42] l = false := hn 0 (by omega)
  have n1 : blankZ (hd l 0) = false := hn 1 (by omega)
  have n2 : quoteB l = false := hn 2 (by omega)
  have n3 : hashB l = false := hn 3 (by omega)
  have n4 : numB l = false := hn 4 (by omega)
  have n5 : (standsB [45, 45, 62] l || standsB [60, 33, 45, 45] l) = false := hn 5 (by omega)
  obtain ⟨n5a, n5b⟩ := Bool.or_eq_false_iff.1 n5
  cases hc : nameB l
  · exact way_of_no (k := 6) hc (word_no hs fx hc)
  · have ho : oneZ l = (some (wordZ l).1, (wordZ l).2) := by
      unfold oneZ
      rw [if_neg (by simp [n0]), if_neg (by simp [n1]), if_neg (by simp [n2]), if_neg (by simp [n3]), if_neg (by simp [n4]), if_neg (by simp [n5a]), if_neg (by simp [n5b]), if_pos hc]
      rfl
    exact way_of_yes (k := 6) hc ho (word_yes hs fx hts hc)
theorem way_7 (hs : St w b v out xs l ts) (fx : Fine xs) (hts : ts.length ≤ 1000000000) (hn : noneFits l 7) (_hne : l ≠ []) :
    Calls Tryz.prog 27 #[.pointer (some ⟨b, 0, none⟩)] w fun e w' => e = .returned (.bool (fits l 7)) ∧ WayPost w b v out xs l ts 7 w' := by
  have n0 : standsB [47, 42] l = false := hn 0 (by omega)
  have n1 : blankZ (hd l 0) = false := hn 1 (by omega)
  have n2 : quoteB l = false := hn 2 (by omega)
  have n3 : hashB l = false := hn 3 (by omega)
  have n4 : numB l = false := hn 4 (by omega)
  have n5 : (standsB [45, 45, 62] l || standsB [60, 33, 45, 45] l) = false := hn 5 (by omega)
  obtain ⟨n5a, n5b⟩ := Bool.or_eq_false_iff.1 n5
  have n6 : nameB l = false := hn 6 (by omega)
  cases hc : atB l
  · exact way_of_no (k := 7) hc (keyword_no hs fx hc)
  · have ho : oneZ l = (some (plainTok 3 (nameT (l.drop 1) 0)), nameR (l.drop 1) 0) := by
      unfold oneZ
      rw [if_neg (by simp [n0]), if_neg (by simp [n1]), if_neg (by simp [n2]), if_neg (by simp [n3]), if_neg (by simp [n4]), if_neg (by simp [n5a]), if_neg (by simp [n5b]), if_neg (by simp [n6]), if_pos hc]
    exact way_of_yes (k := 7) hc ho (keyword_yes hs fx hts hc)
theorem way_8 (hs : St w b v out xs l ts) (fx : Fine xs) (hts : ts.length ≤ 1000000000) (hn : noneFits l 8) (hne : l ≠ []) :
    Calls Tryz.prog 28 #[.pointer (some ⟨b, 0, none⟩)] w fun e w' => e = .returned (.bool (fits l 8)) ∧ WayPost w b v out xs l ts 8 w' := by
  have n0 : standsB [47, 42] l = false := hn 0 (by omega)
  have n1 : blankZ (hd l 0) = false := hn 1 (by omega)
  have n2 : quoteB l = false := hn 2 (by omega)
  have n3 : hashB l = false := hn 3 (by omega)
  have n4 : numB l = false := hn 4 (by omega)
  have n5 : (standsB [45, 45, 62] l || standsB [60, 33, 45, 45] l) = false := hn 5 (by omega)
  obtain ⟨n5a, n5b⟩ := Bool.or_eq_false_iff.1 n5
  have n6 : nameB l = false := hn 6 (by omega)
  have n7 : atB l = false := hn 7 (by omega)
  obtain ⟨c, t, hl⟩ := List.exists_cons_of_ne_nil hne
  have ho : oneZ l = (some (singleZ c), t) := by
    unfold oneZ
    rw [if_neg (by simp [n0]), if_neg (by simp [n1]), if_neg (by simp [n2]), if_neg (by simp [n3]), if_neg (by simp [n4]), if_neg (by simp [n5a]), if_neg (by simp [n5b]), if_neg (by simp [n6]), if_neg (by simp [n7]), hl]
    rfl
  exact way_of_yes (k := 8) rfl ho (single_yes hs fx hts c t hl)

theorem st_start (a : Option Addr) (cap : Nat) (w : World) (hr : RowAt .i32 w (.slice a xs.length cap) xs) (hlow : ∀ ad, a = some ad → ad.block < w.heap.size) :
    St ((w.alloc (.cells #[.slice a xs.length cap, .int .i64 0, .slice none 0 0] 39)).alloc (.cells waysV 42)) w.heap.size (.slice a xs.length cap) (.slice none 0 0) xs xs [] := by
  have hb : ((w.alloc (.cells #[.slice a xs.length cap, .int .i64 0, .slice none 0 0] 39)).alloc (.cells waysV 42)).heap[w.heap.size]? = some (.cells #[.slice a xs.length cap, .int .i64 0, .slice none 0 0] 39 (0, 0)) :=
    (Below.heap_alloc _ _ _ (by simp)).trans (heap_alloc_new w _)
  have hB : Below w.heap.size w ((w.alloc (.cells #[.slice a xs.length cap, .int .i64 0, .slice none 0 0] 39)).alloc (.cells waysV 42)) := ((Below.refl _ w).alloc (Nat.le_refl _) _).alloc (by simp) _
  refine ⟨⟨0, hb, hr.below hB, slice_no, Nat.zero_le _, rfl⟩, ⟨rfl, .inl ⟨rfl, rfl⟩⟩, ?_, ?_⟩
  · intro ad n c h
    cases h
    exact hlow ad rfl
  · have h := heap_alloc_new (w.alloc (.cells #[.slice a xs.length cap, .int .i64 0, .slice none 0 0] 39)) (.cells waysV 42)
    have e : (w.alloc (.cells #[.slice a xs.length cap, .int .i64 0, .slice none 0 0] 39)).heap.size = w.heap.size + 1 := by simp
    rw [e] at h
    exact h
end
end Go.Proofs.YtbfgnfcecfjlnaaGreatDoor
namespace Go.Proofs.YtbfgnfcecfjlnaaGreatDoor
open Go.RowKit
set_option maxRecDepth 100000

theorem arr_cells {b : Nat} {w : World} (h : Arr b w) : w.cell? ⟨b + 1, 0, none⟩ = some (.func (.func 20) #[] #[]) ∧ w.cell? ⟨b + 1, 1, none⟩ = some (.func (.func 21) #[] #[]) ∧ w.cell? ⟨b + 1, 2, none⟩ = some (.func (.func 22) #[] #[]) ∧ w.cell? ⟨b + 1, 3, none⟩ = some (.func (.func 23) #[] #[]) ∧ w.cell? ⟨b + 1, 4, none⟩ = some (.func (.func 24) #[] #[]) ∧ w.cell? ⟨b + 1, 5, none⟩ = some (.func (.func 25) #[] #[]) ∧ w.cell? ⟨b + 1, 6, none⟩ = some (.func (.func 26) #[] #[]) ∧ w.cell? ⟨b + 1, 7, none⟩ = some (.func (.func 27) #[] #[]) ∧ w.cell? ⟨b + 1, 8, none⟩ = some (.func (.func 28) #[] #[]) := by
  have h' : w.heap[b + 1]? = some (.cells waysV 42 (0, 0)) := h
  refine ⟨?_, ?_, ?_, ?_, ?_, ?_, ?_, ?_, ?_⟩ <;> simp [World.cell?, h', waysV]

def TokGo (w : World) (b : Nat) (v : Value) (xs : List Int) (g : Nat) (wr : World) : Prop :=
  ∃ l' out ts, l'.length ≤ g ∧ St wr b v out xs l' ts ∧ Below b w wr ∧ ts ++ toks l' = toks xs ∧ ts.length + l'.length ≤ xs.length
def WayGo (w : World) (b : Nat) (v out : Value) (xs l' : List Int) (ts : List Tok) (g : Nat) (s : Value) (wr : World) : Prop :=
  ∃ (k : Nat) (q : Int), k + g = 9 ∧ q = k ∧ s = .int .i64 q ∧ St wr b v out xs l' ts ∧ Below b w wr ∧ noneFits l' k

theorem none_more {l : List Int} {k : Nat} (h : noneFits l k) (hc : fits l k = false) : noneFits l (k + 1) := by
  intro j hj
  rcases Nat.lt_or_ge j k with h1 | h1
  · exact h j h1
  · have : j = k := by omega
    rw [this]; exact hc
theorem tok_more {l' xs : List Int} {ts : List Tok} (hne : l' ≠ []) (ht : ts ++ toks l' = toks xs) : (ts ++ (oneZ l').1.toList) ++ toks (oneZ l').2 = toks xs ∧ (oneZ l').2.length < l'.length := by
  obtain ⟨c, t, rfl⟩ := List.exists_cons_of_ne_nil hne
  refine ⟨by rw [List.append_assoc, ← toks_cons, ht], ?_⟩
  have := (one_less c t).length_le
  simp only [List.length_cons]
  omega

theorem ways_index (w : World) : (Instr.index 42 (.agg #[(.func (.func 20) #[] #[]), (.func (.func 21) #[] #[]), (.func (.func 22) #[] #[]), (.func (.func 23) #[] #[]), (.func (.func 24) #[] #[]), (.func (.func 25) #[] #[]), (.func (.func 26) #[] #[]), (.func (.func 27) #[] #[]), (.func (.func 28) #[] #[])]) (.int .i64 0)).run Tryz.prog w = .ok (.func (.func 20) #[] #[]) w ∧ (Instr.index 42 (.agg #[(.func (.func 20) #[] #[]), (.func (.func 21) #[] #[]), (.func (.func 22) #[] #[]), (.func (.func 23) #[] #[]), (.func (.func 24) #[] #[]), (.func (.func 25) #[] #[]), (.func (.func 26) #[] #[]), (.func (.func 27) #[] #[]), (.func (.func 28) #[] #[])]) (.int .i64 1)).run Tryz.prog w = .ok (.func (.func 21) #[] #[]) w ∧ (Instr.index 42 (.agg #[(.func (.func 20) #[] #[]), (.func (.func 21) #[] #[]), (.func (.func 22) #[] #[]), (.func (.func 23) #[] #[]), (.func (.func 24) #[] #[]), (.func (.func 25) #[] #[]), (.func (.func 26) #[] #[]), (.func (.func 27) #[] #[]), (.func (.func 28) #[] #[])]) (.int .i64 2)).run Tryz.prog w = .ok (.func (.func 22) #[] #[]) w ∧ (Instr.index 42 (.agg #[(.func (.func 20) #[] #[]), (.func (.func 21) #[] #[]), (.func (.func 22) #[] #[]), (.func (.func 23) #[] #[]), (.func (.func 24) #[] #[]), (.func (.func 25) #[] #[]), (.func (.func 26) #[] #[]), (.func (.func 27) #[] #[]), (.func (.func 28) #[] #[])]) (.int .i64 3)).run Tryz.prog w = .ok (.func (.func 23) #[] #[]) w ∧ (Instr.index 42 (.agg #[(.func (.func 20) #[] #[]), (.func (.func 21) #[] #[]), (.func (.func 22) #[] #[]), (.func (.func 23) #[] #[]), (.func (.func 24) #[] #[]), (.func (.func 25) #[] #[]), (.func (.func 26) #[] #[]), (.func (.func 27) #[] #[]), (.func (.func 28) #[] #[])]) (.int .i64 4)).run Tryz.prog w = .ok (.func (.func 24) #[] #[]) w ∧ (Instr.index 42 (.agg #[(.func (.func 20) #[] #[]), (.func (.func 21) #[] #[]), (.func (.func 22) #[] #[]), (.func (.func 23) #[] #[]), (.func (.func 24) #[] #[]), (.func (.func 25) #[] #[]), (.func (.func 26) #[] #[]), (.func (.func 27) #[] #[]), (.func (.func 28) #[] #[])]) (.int .i64 5)).run Tryz.prog w = .ok (.func (.func 25) #[] #[]) w ∧ (Instr.index 42 (.agg #[(.func (.func 20) #[] #[]), (.func (.func 21) #[] #[]), (.func (.func 22) #[] #[]), (.func (.func 23) #[] #[]), (.func (.func 24) #[] #[]), (.func (.func 25) #[] #[]), (.func (.func 26) #[] #[]), (.func (.func 27) #[] #[]), (.func (.func 28) #[] #[])]) (.int .i64 6)).run Tryz.prog w = .ok (.func (.func 26) #[] #[]) w ∧ (Instr.index 42 (.agg #[(.func (.func 20) #[] #[]), (.func (.func 21) #[] #[]), (.func (.func 22) #[] #[]), (.func (.func 23) #[] #[]), (.func (.func 24) #[] #[]), (.func (.func 25) #[] #[]), (.func (.func 26) #[] #[]), (.func (.func 27) #[] #[]), (.func (.func 28) #[] #[])]) (.int .i64 7)).run Tryz.prog w = .ok (.func (.func 27) #[] #[]) w ∧ (Instr.index 42 (.agg #[(.func (.func 20) #[] #[]), (.func (.func 21) #[] #[]), (.func (.func 22) #[] #[]), (.func (.func 23) #[] #[]), (.func (.func 24) #[] #[]), (.func (.func 25) #[] #[]), (.func (.func 26) #[] #[]), (.func (.func 27) #[] #[]), (.func (.func 28) #[] #[])]) (.int .i64 8)).run Tryz.prog w = .ok (.func (.func 28) #[] #[]) w := ⟨by kernel_rfl, by kernel_rfl, by kernel_rfl, by kernel_rfl, by kernel_rfl, by kernel_rfl, by kernel_rfl, by kernel_rfl, by kernel_rfl⟩

set_option maxHeartbeats 4000000 in
set_option maxRecDepth 100000 in
theorem tokens_any (a : Option Addr) (cap : Nat) (xs : List Int) (w : World) (fx : Fine xs) (hr : RowAt .i32 w (.slice a xs.length cap) xs) (hlow : ∀ ad, a = some ad → ad.block < w.heap.size) :
    Calls Tryz.prog 7 #[.slice a xs.length cap] w fun e w' => ∃ out, e = .returned out ∧ Outs w.heap.size w' out (toks xs) ∧ Below w.heap.size w w' := by
  have hst0 := st_start a cap w hr hlow
  have hbl0 : Below w.heap.size w ((w.alloc (.cells #[.slice a xs.length cap, .int .i64 0, .slice none 0 0] 39)).alloc (.cells waysV 42)) := ((Below.refl _ w).alloc (Nat.le_refl _) _).alloc (by simp) _
  have hfx := fx.1
  have hwv : waysV = #[(.func (.func 20) #[] #[]), (.func (.func 21) #[] #[]), (.func (.func 22) #[] #[]), (.func (.func 23) #[] #[]), (.func (.func 24) #[] #[]), (.func (.func 25) #[] #[]), (.func (.func 26) #[] #[]), (.func (.func 27) #[] #[]), (.func (.func 28) #[] #[])] := rfl
  rw [hwv] at hst0 hbl0
  clear hwv hr hlow
  go_enter Tryz.func7, Tryz.ntmps7
  go_wp2
  go_step3
  go_wp2
  go_step3
  go_wp2
  generalize ((w.alloc (.cells #[.slice a xs.length cap, .int .i64 0, .slice none 0 0] 39)).alloc (.cells #[(.func (.func 20) #[] #[]), (.func (.func 21) #[] #[]), (.func (.func 22) #[] #[]), (.func (.func 23) #[] #[]), (.func (.func 24) #[] #[]), (.func (.func 25) #[] #[]), (.func (.func 26) #[] #[]), (.func (.func 27) #[] #[]), (.func (.func 28) #[] #[])] 42)) = w0 at *
  go_loopg [] xs.length (fun g wx => TokGo w w.heap.size (.slice a xs.length cap) xs g wx)
  case atStart => exact ⟨xs, _, [], Nat.le_refl _, hst0, hbl0, rfl, by simp⟩
  case round =>
    obtain ⟨l', out, ts, hlg, hst, hbw, hto, hln⟩ := hrel
    have HT : Hid (ts ++ toks l' = toks xs) := hto
    clear hto hst0 hbl0
    have hdn := done_w hst.1 fx
    by_cases hne : l' = []
    · subst hne
      have HN : Hid (ts = toks xs) := by
        have := HT.out
        have e : toks [] = [] := rfl
        rw [e, List.append_nil] at this
        exact this
      go_wp2_with (go_at_call 29; fail)
      refine (hdn).mono ?_
      rintro e w' ⟨rfl, m, rfl⟩
      obtain ⟨s2, q2⟩ := st_drew hst m
      obtain ⟨p, hb⟩ := at_heap s2.1
      obtain ⟨hc0, hc1, hc2⟩ := cells3 hb
      clear hb
      go_wp2
      rw [Exit.noGoto_ret]
      go_ret
      exact ⟨out, rfl, by rw [← HN.out]; exact s2.2.1, hbw.trans q2⟩
    · have ed : decide (l' = []) = false := by simpa using hne
      rw [ed] at hdn
      obtain ⟨f0, f1, f2, f3, f4, f5, f6, f7, f8⟩ := arr_cells hst.2.2.2
      go_wp2_with (go_at_call 29; fail)
      refine (hdn).mono ?_
      rintro e w' ⟨rfl, m, rfl⟩
      obtain ⟨s2, q2⟩ := st_drew hst m
      obtain ⟨g, rfl⟩ : ∃ g, gk = g + 1 := ⟨gk - 1, by
        have : 0 < l'.length := List.length_pos_iff.2 hne
        omega⟩
      have hts : ts.length ≤ 1000000000 := by omega
      have hmore := tok_more hne HT.out
      have HM : Hid ((ts ++ (oneZ l').1.toList) ++ toks (oneZ l').2 = toks xs ∧ (oneZ l').2.length < l'.length) := hmore
      have ho1 : (oneZ l').1.toList.length ≤ 1 := by cases (oneZ l').1 <;> simp
      have B2 := hbw.trans q2
      clear hmore hst hbw q2 hdn
      go_wp2
      go_loopg [13] 9 (fun g s wx => WayGo w w.heap.size (.slice a xs.length cap) out xs l' ts g s wx)
      case atStart => exact ⟨0, 0, rfl, rfl, rfl, s2, B2, fun j hj => by omega⟩
      case round =>
        obtain ⟨k, q, hkg, hqk, rfl, hst2, hbw2, hnf⟩ := hrel
        clear s2 B2
        obtain ⟨x0, x1, x2, x3, x4, x5, x6, x7, x8⟩ := ways_index wr
        rcases (show k = 9 ∨ k = 0 ∨ k = 1 ∨ k = 2 ∨ k = 3 ∨ k = 4 ∨ k = 5 ∨ k = 6 ∨ k = 7 ∨ k = 8 by omega) with rfl | rfl | rfl | rfl | rfl | rfl | rfl | rfl | rfl | rfl
        · exact absurd (hnf 8 (by omega)) (by simp [fits])
        · obtain ⟨g2, rfl⟩ : ∃ g2, gk = g2 + 1 := ⟨gk - 1, by omega⟩
          have hw := way_0 hst2 fx hts hnf hne
          obtain rfl : q = 0 := by omega
          clear hqk
          have HG : Hid (0 + (g2 + 1) = 9) := hkg
          clear hkg
          cases hfit : fits l' 0
          · rw [hfit] at hw
            go_wp2_with (go_at_call 20; fail)
            refine (hw).mono ?_
            rintro e w5 ⟨rfl, hp1, hp2, hp3⟩
            go_wp2
            go_roundg g2
            case measure => omega
            case rel => exact ⟨1, 1, by have := HG.out; omega, rfl, rfl, hp1 hfit, hbw2.trans hp3, none_more hnf hfit⟩
          · rw [hfit] at hw
            go_wp2_with (go_at_call 20; fail)
            refine (hw).mono ?_
            rintro e w5 ⟨rfl, hp1, hp2, hp3⟩
            obtain ⟨out', s6⟩ := hp2 hfit
            go_wp2
            go_roundg g
            case measure => omega
            case rel =>
              obtain ⟨hm1, hm2⟩ := HM.out
              exact ⟨(oneZ l').2, out', ts ++ (oneZ l').1.toList, by omega, s6, hbw2.trans hp3, hm1, by rw [List.length_append]; omega⟩
        · obtain ⟨g2, rfl⟩ : ∃ g2, gk = g2 + 1 := ⟨gk - 1, by omega⟩
          have hw := way_1 hst2 fx hts hnf hne
          obtain rfl : q = 1 := by omega
          clear hqk
          have HG : Hid (1 + (g2 + 1) = 9) := hkg
          clear hkg
          cases hfit : fits l' 1
          · rw [hfit] at hw
            go_wp2_with (go_at_call 21; fail)
            refine (hw).mono ?_
            rintro e w5 ⟨rfl, hp1, hp2, hp3⟩
            go_wp2
            go_roundg g2
            case measure => omega
            case rel => exact ⟨2, 2, by have := HG.out; omega, rfl, rfl, hp1 hfit, hbw2.trans hp3, none_more hnf hfit⟩
          · rw [hfit] at hw
            go_wp2_with (go_at_call 21; fail)
            refine (hw).mono ?_
            rintro e w5 ⟨rfl, hp1, hp2, hp3⟩
            obtain ⟨out', s6⟩ := hp2 hfit
            go_wp2
            go_roundg g
            case measure => omega
            case rel =>
              obtain ⟨hm1, hm2⟩ := HM.out
              exact ⟨(oneZ l').2, out', ts ++ (oneZ l').1.toList, by omega, s6, hbw2.trans hp3, hm1, by rw [List.length_append]; omega⟩
        · obtain ⟨g2, rfl⟩ : ∃ g2, gk = g2 + 1 := ⟨gk - 1, by omega⟩
          have hw := way_2 hst2 fx hts hnf hne
          obtain rfl : q = 2 := by omega
          clear hqk
          have HG : Hid (2 + (g2 + 1) = 9) := hkg
          clear hkg
          cases hfit : fits l' 2
          · rw [hfit] at hw
            go_wp2_with (go_at_call 22; fail)
            refine (hw).mono ?_
            rintro e w5 ⟨rfl, hp1, hp2, hp3⟩
            go_wp2
            go_roundg g2
            case measure => omega
            case rel => exact ⟨3, 3, by have := HG.out; omega, rfl, rfl, hp1 hfit, hbw2.trans hp3, none_more hnf hfit⟩
          · rw [hfit] at hw
            go_wp2_with (go_at_call 22; fail)
            refine (hw).mono ?_
            rintro e w5 ⟨rfl, hp1, hp2, hp3⟩
            obtain ⟨out', s6⟩ := hp2 hfit
            go_wp2
            go_roundg g
            case measure => omega
            case rel =>
              obtain ⟨hm1, hm2⟩ := HM.out
              exact ⟨(oneZ l').2, out', ts ++ (oneZ l').1.toList, by omega, s6, hbw2.trans hp3, hm1, by rw [List.length_append]; omega⟩
        · obtain ⟨g2, rfl⟩ : ∃ g2, gk = g2 + 1 := ⟨gk - 1, by omega⟩
          have hw := way_3 hst2 fx hts hnf hne
          obtain rfl : q = 3 := by omega
          clear hqk
          have HG : Hid (3 + (g2 + 1) = 9) := hkg
          clear hkg
          cases hfit : fits l' 3
          · rw [hfit] at hw
            go_wp2_with (go_at_call 23; fail)
            refine (hw).mono ?_
            rintro e w5 ⟨rfl, hp1, hp2, hp3⟩
            go_wp2
            go_roundg g2
            case measure => omega
            case rel => exact ⟨4, 4, by have := HG.out; omega, rfl, rfl, hp1 hfit, hbw2.trans hp3, none_more hnf hfit⟩
          · rw [hfit] at hw
            go_wp2_with (go_at_call 23; fail)
            refine (hw).mono ?_
            rintro e w5 ⟨rfl, hp1, hp2, hp3⟩
            obtain ⟨out', s6⟩ := hp2 hfit
            go_wp2
            go_roundg g
            case measure => omega
            case rel =>
              obtain ⟨hm1, hm2⟩ := HM.out
              exact ⟨(oneZ l').2, out', ts ++ (oneZ l').1.toList, by omega, s6, hbw2.trans hp3, hm1, by rw [List.length_append]; omega⟩
        · obtain ⟨g2, rfl⟩ : ∃ g2, gk = g2 + 1 := ⟨gk - 1, by omega⟩
          have hw := way_4 hst2 fx hts hnf hne
          obtain rfl : q = 4 := by omega
          clear hqk
          have HG : Hid (4 + (g2 + 1) = 9) := hkg
          clear hkg
          cases hfit : fits l' 4
          · rw [hfit] at hw
            go_wp2_with (go_at_call 24; fail)
            refine (hw).mono ?_
            rintro e w5 ⟨rfl, hp1, hp2, hp3⟩
            go_wp2
            go_roundg g2
            case measure => omega
            case rel => exact ⟨5, 5, by have := HG.out; omega, rfl, rfl, hp1 hfit, hbw2.trans hp3, none_more hnf hfit⟩
          · rw [hfit] at hw
            go_wp2_with (go_at_call 24; fail)
            refine (hw).mono ?_
            rintro e w5 ⟨rfl, hp1, hp2, hp3⟩
            obtain ⟨out', s6⟩ := hp2 hfit
            go_wp2
            go_roundg g
            case measure => omega
            case rel =>
              obtain ⟨hm1, hm2⟩ := HM.out
              exact ⟨(oneZ l').2, out', ts ++ (oneZ l').1.toList, by omega, s6, hbw2.trans hp3, hm1, by rw [List.length_append]; omega⟩
        · obtain ⟨g2, rfl⟩ : ∃ g2, gk = g2 + 1 := ⟨gk - 1, by omega⟩
          have hw := way_5 hst2 fx hts hnf hne
          obtain rfl : q = 5 := by omega
          clear hqk
          have HG : Hid (5 + (g2 + 1) = 9) := hkg
          clear hkg
          cases hfit : fits l' 5
          · rw [hfit] at hw
            go_wp2_with (go_at_call 25; fail)
            refine (hw).mono ?_
            rintro e w5 ⟨rfl, hp1, hp2, hp3⟩
            go_wp2
            go_roundg g2
            case measure => omega
            case rel => exact ⟨6, 6, by have := HG.out; omega, rfl, rfl, hp1 hfit, hbw2.trans hp3, none_more hnf hfit⟩
          · rw [hfit] at hw
            go_wp2_with (go_at_call 25; fail)
            refine (hw).mono ?_
            rintro e w5 ⟨rfl, hp1, hp2, hp3⟩
            obtain ⟨out', s6⟩ := hp2 hfit
            go_wp2
            go_roundg g
            case measure => omega
            case rel =>
              obtain ⟨hm1, hm2⟩ := HM.out
              exact ⟨(oneZ l').2, out', ts ++ (oneZ l').1.toList, by omega, s6, hbw2.trans hp3, hm1, by rw [List.length_append]; omega⟩
        · obtain ⟨g2, rfl⟩ : ∃ g2, gk = g2 + 1 := ⟨gk - 1, by omega⟩
          have hw := way_6 hst2 fx hts hnf hne
          obtain rfl : q = 6 := by omega
          clear hqk
          have HG : Hid (6 + (g2 + 1) = 9) := hkg
          clear hkg
          cases hfit : fits l' 6
          · rw [hfit] at hw
            go_wp2_with (go_at_call 26; fail)
            refine (hw).mono ?_
            rintro e w5 ⟨rfl, hp1, hp2, hp3⟩
            go_wp2
            go_roundg g2
            case measure => omega
            case rel => exact ⟨7, 7, by have := HG.out; omega, rfl, rfl, hp1 hfit, hbw2.trans hp3, none_more hnf hfit⟩
          · rw [hfit] at hw
            go_wp2_with (go_at_call 26; fail)
            refine (hw).mono ?_
            rintro e w5 ⟨rfl, hp1, hp2, hp3⟩
            obtain ⟨out', s6⟩ := hp2 hfit
            go_wp2
            go_roundg g
            case measure => omega
            case rel =>
              obtain ⟨hm1, hm2⟩ := HM.out
              exact ⟨(oneZ l').2, out', ts ++ (oneZ l').1.toList, by omega, s6, hbw2.trans hp3, hm1, by rw [List.length_append]; omega⟩
        · obtain ⟨g2, rfl⟩ : ∃ g2, gk = g2 + 1 := ⟨gk - 1, by omega⟩
          have hw := way_7 hst2 fx hts hnf hne
          obtain rfl : q = 7 := by omega
          clear hqk
          have HG : Hid (7 + (g2 + 1) = 9) := hkg
          clear hkg
          cases hfit : fits l' 7
          · rw [hfit] at hw
            go_wp2_with (go_at_call 27; fail)
            refine (hw).mono ?_
            rintro e w5 ⟨rfl, hp1, hp2, hp3⟩
            go_wp2
            go_roundg g2
            case measure => omega
            case rel => exact ⟨8, 8, by have := HG.out; omega, rfl, rfl, hp1 hfit, hbw2.trans hp3, none_more hnf hfit⟩
          · rw [hfit] at hw
            go_wp2_with (go_at_call 27; fail)
            refine (hw).mono ?_
            rintro e w5 ⟨rfl, hp1, hp2, hp3⟩
            obtain ⟨out', s6⟩ := hp2 hfit
            go_wp2
            go_roundg g
            case measure => omega
            case rel =>
              obtain ⟨hm1, hm2⟩ := HM.out
              exact ⟨(oneZ l').2, out', ts ++ (oneZ l').1.toList, by omega, s6, hbw2.trans hp3, hm1, by rw [List.length_append]; omega⟩
        · obtain ⟨g2, rfl⟩ : ∃ g2, gk = g2 + 1 := ⟨gk - 1, by omega⟩
          have hw := way_8 hst2 fx hts hnf hne
          obtain rfl : q = 8 := by omega
          clear hqk
          have HG : Hid (8 + (g2 + 1) = 9) := hkg
          clear hkg
          cases hfit : fits l' 8
          · exact absurd hfit (by simp [fits])
          · rw [hfit] at hw
            go_wp2_with (go_at_call 28; fail)
            refine (hw).mono ?_
            rintro e w5 ⟨rfl, hp1, hp2, hp3⟩
            obtain ⟨out', s6⟩ := hp2 hfit
            go_wp2
            go_roundg g
            case measure => omega
            case rel =>
              obtain ⟨hm1, hm2⟩ := HM.out
              exact ⟨(oneZ l').2, out', ts ++ (oneZ l').1.toList, by omega, s6, hbw2.trans hp3, hm1, by rw [List.length_append]; omega⟩
end Go.Proofs.YtbfgnfcecfjlnaaGreatDoor
namespace Go.Proofs.YtbfgnfcecfjlnaaGreatDoor
open Go.RowKit
set_option maxRecDepth 100000

theorem charsFrom_len (s : ByteArray) : ∀ (f pos : Nat), (charsFrom s f pos).length ≤ f
  | 0, _ => by simp [charsFrom]
  | f + 1, pos => by
    rw [charsFrom]
    split
    · have := charsFrom_len s f (pos + (Utf8.decode s pos).2)
      simp only [List.length_cons]
      omega
    · simp
theorem norm_len : ∀ (l : List Int) (last : Int), (normZ last l).length ≤ l.length
  | [], last => by simp [normZ]
  | c :: r, last => by
    have h1 := norm_len r c
    rw [normZ]
    split
    · simp only [List.length_cons]; omega
    · simp only [List.length_cons]; omega
theorem runes_len (s : ByteArray) : (runesZ s).length ≤ s.size := Nat.le_trans (norm_len _ _) (charsFrom_len s _ _)
theorem runes_fine (s : ByteArray) (hs : s.size ≤ 1000000000) : Fine (runesZ s) := ⟨Nat.le_trans (runes_len s) hs, fun c hc => (runes_told s c hc).1⟩

def cutZ (s : ByteArray) : List Tok := toks (runesZ s)

set_option maxHeartbeats 1000000 in
theorem cut_any (s : ByteArray) (w : World) (hs : s.size ≤ 1000000000) :
    Calls Tryz.prog 19 #[.string s] w fun e w' => ∃ out, e = .returned out ∧ Outs w.heap.size w' out (cutZ s) ∧ Below w.heap.size w w' := by
  obtain ⟨g, cap, W, hcv, hcap, hg, hcell, _, hB⟩ := bytesOf s w
  have hba : BytesAt W (.slice (some ⟨g, 0, none⟩) s.size cap) s := ⟨_, _, rfl, hcap, fun _ => ⟨g, 0, rfl, fun j hj => by simpa using hcell j hj⟩⟩
  have hru := runes_any _ s W (by omega) hba
  clear hcell hba
  go_enter Tryz.func19, Tryz.ntmps19
  go_wp2_with (go_at_call 8; fail)
  refine (hru).mono ?_
  rintro e w2 ⟨u, rfl, hown, hb2⟩
  have hrow := RowAt.own hown
  obtain ⟨a, c2, hu⟩ : ∃ a c2, u = .slice a (runesZ s).length c2 := by
    rcases hown.2 with ⟨hv, hz⟩ | ⟨g2, c2, cur, hv, _⟩
    · exact ⟨none, 0, by rw [hv, hz]⟩
    · exact ⟨_, c2, hv⟩
  have hlow : ∀ ad, a = some ad → ad.block < w2.heap.size := by
    intro ad e
    rcases hown.2 with ⟨hv, _⟩ | ⟨g2, c3, cur, hv, _, hg2, _⟩
    · rw [hv, e] at hu; cases hu
    · rw [hv, e] at hu
      cases hu
      exact (Array.getElem?_eq_some_iff.1 hg2).1
  subst hu
  have ht := tokens_any a c2 (runesZ s) w2 (runes_fine s hs) hrow hlow
  have B2 : Below w.heap.size w w2 := hB.trans (hb2.mono hB.size)
  clear hown hrow hlow
  go_wp2_with (go_at_call 7; fail)
  refine (ht).mono ?_
  rintro e w3 ⟨out, rfl, ho, hb3⟩
  go_wp2
  go_ret
  refine ⟨out, rfl, ?_, B2.trans (hb3.mono B2.size)⟩
  refine ⟨ho.1, ?_⟩
  rcases ho.2 with hn | ⟨g3, c3, cur, hv, hbg, rest⟩
  · exact .inl hn
  · exact .inr ⟨g3, c3, cur, hv, Nat.le_trans B2.size hbg, rest⟩
end Go.Proofs.YtbfgnfcecfjlnaaGreatDoor
