/- The text of each token of a text, but of those that are damaged, of URLs, and of a lone sign, is that token again. TokenBack is true whatever the text, where the laid table holds. -/
import Derived.Test.YtbfgnfcecfjlnaaDoorBackMore
import Derived.Test.YtbfgnfcecfjlnaaDoorSourcesMore
import Derived.Test.YtbfgnfcecfjlnaaDoorNumbersWalk
namespace Go.Proofs.YtbfgnfcecfjlnaaDoor
open Go.RowKit

theorem nameT_char : ∀ (n : Nat) (l : List Int), l.length ≤ n → (∀ c ∈ l, IsChar c) → ∀ c ∈ nameT l 0, IsChar c
  | 0, l, h, _, c, hc => by
    have : l = [] := List.length_eq_zero_iff.1 (by omega)
    subst this
    simp [nameT] at hc
  | n + 1, [], _, _, c, hc => by simp [nameT] at hc
  | n + 1, x :: t, h, hl, c, hc => by
    have ht : ∀ c ∈ t, IsChar c := fun c hc => hl c (by simp [hc])
    have htl : t.length ≤ n := by simp at h; omega
    by_cases hp : partZ x = true
    · rw [(nameT_part hp).1] at hc
      rcases List.mem_cons.1 hc with rfl | hc
      · exact hl c (by simp)
      · exact nameT_char n t htl ht c hc
    · have hp' : partZ x = false := by simpa using hp
      by_cases he : escB (x :: t) = true
      · rw [(nameT_esc hp' he).1] at hc
        rcases List.mem_cons.1 hc with rfl | hc
        · exact escT_char ht
        · exact nameT_char n (t.drop (escT t).2) (by rw [List.length_drop]; omega) (fun c hc => ht c (List.mem_of_mem_drop hc)) c hc
      · rw [(nameT_stop (l := x :: t) hp' (by simpa using he)).1] at hc
        cases hc
theorem nameT_ne {l : List Int} (h : (partZ (hd l 0) || escB l) = true) : nameT l 0 ≠ [] := by
  cases l with
  | nil => simp [hd, partZ, startZ, digitZ, escB] at h
  | cons c t =>
    by_cases hp : partZ c = true
    · rw [(nameT_part hp).1]
      simp
    · have hp' : partZ c = false := by simpa using hp
      have he : escB (c :: t) = true := by
        have h' : (partZ c || escB (c :: t)) = true := h
        rw [hp', Bool.false_or] at h'
        exact h'
      rw [(nameT_esc hp' he).1]
      simp
theorem name_opens {l : List Int} (h : nameB l = true) : (partZ (hd l 0) || escB l) = true := by
  unfold nameB at h
  split at h
  · rename_i h45
    have : hd l 0 = 45 := by simpa using h45
    rw [this]
    rfl
  · unfold wordB at h
    rcases Bool.or_eq_true_iff.1 h with h1 | h1
    · unfold partZ
      rw [h1]
      rfl
    · rw [h1]
      simp
theorem quo_len (e : Int) : ∀ (l : List Int) (k : Nat) (t : List Int), (quoZ e l k).1 = some t → t.length ≤ l.length
  | [], k, t, h => by
    simp [quoZ] at h
    subst h
    simp
  | _ :: r, k + 1, t, h => by
    rw [quoZ] at h
    have := quo_len e r k t h
    simp
    omega
  | c :: r, 0, t, h => by
    have key : ∀ x (k : Nat), (consO x (quoZ e r k)).1 = some t → t.length ≤ (c :: r).length := by
      intro x k hx
      unfold consO at hx
      simp at hx
      obtain ⟨u, hu, rfl⟩ := hx
      have := quo_len e r k u hu
      simp
      omega
    rw [quoZ] at h
    split at h
    · simp at h
      subst h
      simp
    · split at h
      · simp at h
      · split at h
        · split at h
          · have := quo_len e r 1 t h
            simp
            omega
          · split at h
            · have := quo_len e r 0 t h
              simp
              omega
            · exact key _ _ h
        · exact key _ _ h
theorem strT_size (tx : List Int) : (strT tx).size ≤ 4 * tx.length ∧ tx.length ≤ (strT tx).size := by
  unfold strT
  rw [strOf_size]
  exact ⟨bytesZ_len tx, bytesZ_ge tx⟩

def AlikeT (u t : Tok) : Prop := u.kind = t.kind ∧ strT u.text = strT t.text ∧ strT u.unit = strT t.unit ∧ u.whole = t.whole ∧ u.flag = t.flag
def Back (t : Tok) : Prop := ∃ src u, (∀ w, Tab w → 3 < w.heap.size → Calls Tryd.prog 13 #[tokV t] w fun e w' => e = .returned (.string src) ∧ Below w.heap.size w w') ∧ src.size ≤ 1000000000 ∧ cutZ src = [u] ∧ AlikeT u t

theorem chars_ne {tx : List Int} (h : tx ≠ []) : chars (strT tx) ≠ [] := by
  intro e
  have h1 := (chars_none (strT tx)).1 e
  have h2 := (strT_size tx).2
  rw [h1] at h2
  exact h (List.length_eq_zero_iff.1 (by omega))
theorem back_ident {tx : List Int} (hne : tx ≠ []) (hl : tx.length ≤ 2000) (hc : (chars (strT tx)).all cleanC = true) : Back (plainTok 1 tx) := by
  have h4 := (strT_size tx).1
  have h5 := escL_len (strT tx)
  refine ⟨strOfNums (escL (strT tx)), plainTok 1 (chars (strT tx)), fun w ht h3 => source_ident (strT tx) (strT []) false false w (by omega) ht h3, ?_, (cut_esc _ hc (chars_ne hne)).1, rfl, clean_str _ hc, rfl, rfl, rfl⟩
  rw [strOf_size]
  omega
theorem back_at {tx : List Int} (hne : tx ≠ []) (hl : tx.length ≤ 2000) (hc : (chars (strT tx)).all cleanC = true) : Back (plainTok 3 tx) := by
  have h4 := (strT_size tx).1
  have h5 := escL_len (strT tx)
  have hcut := (cut_esc _ hc (chars_ne hne)).2.1
  refine ⟨strOfNums ([64] ++ escL (strT tx)), plainTok 3 (chars (strT tx)), fun w ht h3 => source_at (strT tx) (strT []) false false w (by omega) ht h3, ?_, ?_, rfl, clean_str _ hc, rfl, rfl, rfl⟩
  · rw [strOf_size, List.length_append]
    simp
    omega
  · rw [nums_two]
    exact hcut
theorem back_hash {tx : List Int} (hne : tx ≠ []) (hl : tx.length ≤ 2000) (hc : (chars (strT tx)).all cleanC = true) : Back (mkTok 4 tx [] false true) := by
  have h4 := (strT_size tx).1
  have h5 := escL_len (strT tx)
  have hcut := (cut_esc _ hc (chars_ne hne)).2.2
  refine ⟨strOfNums ([35] ++ escL (strT tx)), mkTok 4 (chars (strT tx)) [] false true, fun w ht h3 => source_hash (strT tx) (strT []) false true w (by omega) ht h3, ?_, ?_, rfl, clean_str _ hc, rfl, rfl, rfl⟩
  · rw [strOf_size, List.length_append]
    simp
    omega
  · rw [nums_two]
    exact hcut
theorem back_loose {tx : List Int} (hlo : Loose tx) (hch : ∀ c ∈ tx, IsChar c) (hl : tx.length ≤ 2000) (hc : (chars (strT tx)).all cleanC = true) : Back (mkTok 4 tx [] false false) := by
  have h4 := (strT_size tx).1
  have h5 := partsL_len (strT tx)
  have hx : chars (strT tx) = tx := chars_of_bytes tx hch
  obtain ⟨h0, _⟩ := clean_parts hc
  rw [hx] at h0
  have e1 : [35] ++ partsL (strT tx) = bytesZ (35 :: tx.flatMap partC) := by
    unfold partsL
    rw [hx, bytesZ_cons, bytes_parts tx h0, Lib.encodeRuneZ_one (by omega) (by omega)]
  refine ⟨strOfNums ([35] ++ partsL (strT tx)), mkTok 4 tx [] false false, fun w ht h3 => source_hash (strT tx) (strT []) false false w (by omega) ht h3, ?_, ?_, rfl, rfl, rfl, rfl, rfl⟩
  · rw [strOf_size, List.length_append]
    simp
    omega
  · unfold cutZ
    rw [e1, runes_again]
    · exact toks_loose tx hlo h0
    · intro x hx2
      rcases List.mem_cons.1 hx2 with rfl | hx2
      · exact ⟨⟨by omega, by omega, by omega⟩, by omega, by omega, by omega⟩
      · exact told_parts hch h0 x hx2
theorem back_func {tx : List Int} (hne : tx ≠ []) (hl : tx.length ≤ 2000) (hc : (chars (strT tx)).all cleanC = true) (hu : urlNm tx = false) : Back (plainTok 2 tx) := by
  have h4 := (strT_size tx).1
  have h5 := escL_len (strT tx)
  obtain ⟨h0, _⟩ := clean_parts hc
  have hch : ∀ c ∈ chars (strT tx), IsChar c := chars_char _ _ 0
  have hst := clean_str _ hc
  have hu2 : urlNm (chars (strT tx)) = false := by
    have a1 := url_name (chars (strT tx))
    have a2 := url_name tx
    have e : strOfNums (bytesZ (chars (strT tx))) = strT tx := hst
    rw [e] at a1
    cases h : urlNm (chars (strT tx))
    · rfl
    · have := a2.1 (a1.2 h)
      rw [hu] at this
      cases this
  have e1 : escL (strT tx) ++ [40] = bytesZ (escC (chars (strT tx)) ++ [40]) := by
    rw [bytesZ_app, esc_chars _ h0, show bytesZ [40] = [40] from bytesZ_ascii [40] (by simp)]
  refine ⟨strOfNums (escL (strT tx) ++ [40]), plainTok 2 (chars (strT tx)), fun w ht h3 => source_func (strT tx) (strT []) false false w (by omega) ht h3, ?_, ?_, rfl, hst, rfl, rfl, rfl⟩
  · rw [strOf_size, List.length_append]
    simp
    omega
  · unfold cutZ
    rw [e1, runes_again]
    · exact toks_func _ (chars_ne hne) h0 hu2
    · intro x hx2
      rcases List.mem_append.1 hx2 with hx2 | hx2
      · exact told_esc _ hch h0 x hx2
      · simp at hx2
        subst hx2
        exact ⟨⟨by omega, by omega, by omega⟩, by omega, by omega, by omega⟩
theorem quoL_len (s : ByteArray) : (quoL s).length ≤ 5 * s.size + 2 := by
  have h1 : ∀ l : List Int, (l.flatMap quoPartL).length ≤ 5 * l.length := by
    intro l
    induction l with
    | nil => simp
    | cons c r ih =>
      have := quoPartL_len c
      rw [List.flatMap_cons, List.length_append, List.length_cons]
      omega
  have h2 := h1 (chars s)
  have h4 : (chars s).length ≤ s.size := charsFrom_len s s.size 0
  unfold quoL
  simp only [List.length_append, List.length_cons, List.length_nil]
  omega
theorem back_string {tx : List Int} (hl : tx.length ≤ 2000) (hc : (chars (strT tx)).all cleanC = true) : Back (plainTok 5 tx) := by
  have h4 := (strT_size tx).1
  have h5 := quoL_len (strT tx)
  refine ⟨strOfNums (quoL (strT tx)), plainTok 5 (chars (strT tx)), fun w ht h3 => source_string (strT tx) (strT []) false false w (by omega) ht h3, ?_, cut_quote _ hc, rfl, clean_str _ hc, rfl, rfl, rfl⟩
  rw [strOf_size]
  omega
theorem num_byte {d : List Int} {wh : Bool} (hn : NumTx d wh) : ∀ n ∈ d, 0 ≤ n ∧ n < 256 := fun n h => by have := (numT_told hn).1 n h; omega
theorem back_num10 {d : List Int} {wh : Bool} (hn : NumTx d wh) (hl : d.length ≤ 2000) : Back (mkTok 10 d [] wh false) := by
  obtain ⟨h1, _, h3⟩ := cut_numT hn
  refine ⟨strOfNums d, mkTok 10 d [] wh false, fun w ht h3' => ?_, ?_, h1, rfl, rfl, rfl, rfl, rfl⟩
  · have := source_num (strT []) wh false w d (num_byte hn) hn.1 (by omega) ht h3'
    rw [← h3] at this ⊢
    exact this
  · rw [strOf_size]
    omega
theorem back_num11 {d : List Int} {wh : Bool} (hn : NumTx d wh) (hl : d.length ≤ 2000) : Back (mkTok 11 d [] wh false) := by
  obtain ⟨_, h1, h3⟩ := cut_numT hn
  refine ⟨strOfNums (d ++ [37]), mkTok 11 d [] wh false, fun w ht h3' => ?_, ?_, h1, rfl, rfl, rfl, rfl, rfl⟩
  · have := source_pc (strT []) wh false w d (num_byte hn) hn.1 (by omega) ht h3'
    rw [← h3] at this
    exact this
  · rw [strOf_size, List.length_append]
    simp
    omega
theorem back_num12 {d u : List Int} {wh : Bool} (hn : NumTx d wh) (hl : d.length ≤ 2000) (hu : u ≠ []) (hul : u.length ≤ 2000) (hc : (chars (strT u)).all cleanC = true) : Back (mkTok 12 d u wh false) := by
  obtain ⟨_, _, h3⟩ := cut_numT hn
  have h4 := strT_size u
  have h5 := unitL_len (strT u)
  have hu0 : 0 < u.length := List.length_pos_iff.2 hu
  refine ⟨strOfNums (d ++ unitL (strT u)), mkTok 12 d (chars (strT u)) wh false, fun w ht h3' => ?_, ?_, cut_dimT hn (strT u) (by omega) hc, rfl, rfl, clean_str _ hc, rfl, rfl⟩
  · have := source_dim2 d (num_byte hn) hn.1 (by omega) (strT u) (by omega) (by omega) wh false w ht h3'
    rw [← h3] at this
    exact this
  · rw [strOf_size, List.length_append]
    omega
theorem back_space : Back (plainTok 13 []) :=
  ⟨strOfNums [32], plainTok 13 [], fun w ht h3 => source_space (strT []) (strT []) false false w (by decide) ht h3, by decide, by
    have e : runesZ (strOfNums [32]) = [32] := by decide +kernel
    unfold cutZ
    rw [e]
    exact (by kernel_rfl : toks [32] = [plainTok 13 []]), rfl, rfl, rfl, rfl, rfl⟩
theorem back_cdo : Back (plainTok 14 []) :=
  ⟨strOfNums [60, 33, 45, 45], plainTok 14 [], fun w ht h3 => source_cdo (strT []) (strT []) false false w (by decide) ht h3, by decide, by
    have e : runesZ (strOfNums [60, 33, 45, 45]) = [60, 33, 45, 45] := by decide +kernel
    unfold cutZ
    rw [e]
    exact (by kernel_rfl : toks [60, 33, 45, 45] = [plainTok 14 []]), rfl, rfl, rfl, rfl, rfl⟩
theorem back_cdc : Back (plainTok 15 []) :=
  ⟨strOfNums [45, 45, 62], plainTok 15 [], fun w ht h3 => source_cdc (strT []) (strT []) false false w (by decide) ht h3, by decide, by
    have e : runesZ (strOfNums [45, 45, 62]) = [45, 45, 62] := by decide +kernel
    unfold cutZ
    rw [e]
    exact (by kernel_rfl : toks [45, 45, 62] = [plainTok 15 []]), rfl, rfl, rfl, rfl, rfl⟩
theorem back_16 : Back (plainTok 16 []) :=
  ⟨strOfNums [58], plainTok 16 [], fun w ht h3 => source_16 (strT []) (strT []) false false w (by decide) ht h3, by decide, by
    have e : runesZ (strOfNums [58]) = [58] := by decide +kernel
    unfold cutZ
    rw [e]
    exact (by kernel_rfl : toks [58] = [plainTok 16 []]), rfl, rfl, rfl, rfl, rfl⟩
theorem back_17 : Back (plainTok 17 []) :=
  ⟨strOfNums [59], plainTok 17 [], fun w ht h3 => source_17 (strT []) (strT []) false false w (by decide) ht h3, by decide, by
    have e : runesZ (strOfNums [59]) = [59] := by decide +kernel
    unfold cutZ
    rw [e]
    exact (by kernel_rfl : toks [59] = [plainTok 17 []]), rfl, rfl, rfl, rfl, rfl⟩
theorem back_18 : Back (plainTok 18 []) :=
  ⟨strOfNums [44], plainTok 18 [], fun w ht h3 => source_18 (strT []) (strT []) false false w (by decide) ht h3, by decide, by
    have e : runesZ (strOfNums [44]) = [44] := by decide +kernel
    unfold cutZ
    rw [e]
    exact (by kernel_rfl : toks [44] = [plainTok 18 []]), rfl, rfl, rfl, rfl, rfl⟩
theorem back_19 : Back (plainTok 19 []) :=
  ⟨strOfNums [91], plainTok 19 [], fun w ht h3 => source_19 (strT []) (strT []) false false w (by decide) ht h3, by decide, by
    have e : runesZ (strOfNums [91]) = [91] := by decide +kernel
    unfold cutZ
    rw [e]
    exact (by kernel_rfl : toks [91] = [plainTok 19 []]), rfl, rfl, rfl, rfl, rfl⟩
theorem back_20 : Back (plainTok 20 []) :=
  ⟨strOfNums [93], plainTok 20 [], fun w ht h3 => source_20 (strT []) (strT []) false false w (by decide) ht h3, by decide, by
    have e : runesZ (strOfNums [93]) = [93] := by decide +kernel
    unfold cutZ
    rw [e]
    exact (by kernel_rfl : toks [93] = [plainTok 20 []]), rfl, rfl, rfl, rfl, rfl⟩
theorem back_21 : Back (plainTok 21 []) :=
  ⟨strOfNums [40], plainTok 21 [], fun w ht h3 => source_21 (strT []) (strT []) false false w (by decide) ht h3, by decide, by
    have e : runesZ (strOfNums [40]) = [40] := by decide +kernel
    unfold cutZ
    rw [e]
    exact (by kernel_rfl : toks [40] = [plainTok 21 []]), rfl, rfl, rfl, rfl, rfl⟩
theorem back_22 : Back (plainTok 22 []) :=
  ⟨strOfNums [41], plainTok 22 [], fun w ht h3 => source_22 (strT []) (strT []) false false w (by decide) ht h3, by decide, by
    have e : runesZ (strOfNums [41]) = [41] := by decide +kernel
    unfold cutZ
    rw [e]
    exact (by kernel_rfl : toks [41] = [plainTok 22 []]), rfl, rfl, rfl, rfl, rfl⟩
theorem back_23 : Back (plainTok 23 []) :=
  ⟨strOfNums [123], plainTok 23 [], fun w ht h3 => source_23 (strT []) (strT []) false false w (by decide) ht h3, by decide, by
    have e : runesZ (strOfNums [123]) = [123] := by decide +kernel
    unfold cutZ
    rw [e]
    exact (by kernel_rfl : toks [123] = [plainTok 23 []]), rfl, rfl, rfl, rfl, rfl⟩
theorem back_24 : Back (plainTok 24 []) :=
  ⟨strOfNums [125], plainTok 24 [], fun w ht h3 => source_24 (strT []) (strT []) false false w (by decide) ht h3, by decide, by
    have e : runesZ (strOfNums [125]) = [125] := by decide +kernel
    unfold cutZ
    rw [e]
    exact (by kernel_rfl : toks [125] = [plainTok 24 []]), rfl, rfl, rfl, rfl, rfl⟩
theorem back_single {c : Int} (h9 : (singleZ c).kind ≠ 9) : Back (singleZ c) := by
  unfold singleZ at h9 ⊢
  by_cases h : 0 < signZ c
  · rw [if_pos h]
    unfold signZ at h ⊢
    by_cases c58 : c = 58
    · rw [if_pos c58]
      exact back_16
    rw [if_neg c58] at h ⊢
    by_cases c59 : c = 59
    · rw [if_pos c59]
      exact back_17
    rw [if_neg c59] at h ⊢
    by_cases c44 : c = 44
    · rw [if_pos c44]
      exact back_18
    rw [if_neg c44] at h ⊢
    by_cases c91 : c = 91
    · rw [if_pos c91]
      exact back_19
    rw [if_neg c91] at h ⊢
    by_cases c93 : c = 93
    · rw [if_pos c93]
      exact back_20
    rw [if_neg c93] at h ⊢
    by_cases c40 : c = 40
    · rw [if_pos c40]
      exact back_21
    rw [if_neg c40] at h ⊢
    by_cases c41 : c = 41
    · rw [if_pos c41]
      exact back_22
    rw [if_neg c41] at h ⊢
    by_cases c123 : c = 123
    · rw [if_pos c123]
      exact back_23
    rw [if_neg c123] at h ⊢
    by_cases c125 : c = 125
    · rw [if_pos c125]
      exact back_24
    rw [if_neg c125] at h ⊢
    omega
  · rw [if_neg h] at h9
    exact absurd rfl h9

theorem back_any {xs : List Int} (hx : ∀ c ∈ xs, IsChar c) (hlen : xs.length ≤ 2000) {t : Tok} (ht : t ∈ toks xs) (k6 : t.kind ≠ 6) (k8 : t.kind ≠ 8) (k7 : t.kind ≠ 7) (k9 : t.kind ≠ 9)
    (c1 : (chars (strT t.text)).all cleanC = true) (c2 : (chars (strT t.unit)).all cleanC = true) (hu : t.kind = 2 → urlNm t.text = false) : Back t := by
  obtain ⟨l, hl0, hsuf, ho⟩ := toks_from _ xs (Nat.le_refl _) t ht
  have hlx : ∀ c ∈ l, IsChar c := fun c hc => hx c (hsuf.subset hc)
  have hll : l.length ≤ 2000 := Nat.le_trans hsuf.length_le hlen
  have hdr : ∀ k, (l.drop k).length ≤ 2000 := fun k => by rw [List.length_drop]; omega
  unfold oneZ at ho
  split at ho
  · cases ho
  split at ho
  · cases ho
    exact back_space
  split at ho
  · unfold someT strZ at ho
    have hq := quo_len (hd l 0) (l.drop 1) 0
    cases hz : quoZ (hd l 0) (l.drop 1) 0 with
    | mk a r =>
      rw [hz] at ho hq
      cases a with
      | none =>
        cases ho
        exact absurd rfl k6
      | some tx =>
        cases ho
        exact back_string (Nat.le_trans (hq tx rfl) (hdr 1)) c1
  split at ho
  · rename_i hh
    cases ho
    unfold hashZ at c1 ⊢
    have hop : (partZ (hd (l.drop 1) 0) || escB (l.drop 1)) = true := by
      unfold hashB at hh
      have h2 := (Bool.and_eq_true_iff.1 hh).2
      cases l with
      | nil => exact absurd rfl hl0
      | cons c r => exact h2
    have hne := nameT_ne hop
    have hnl := Nat.le_trans (nameT_len (l.drop 1) 0) (hdr 1)
    cases hN : nameB (l.drop 1)
    · exact back_loose (loose_of hop hN) (nameT_char _ _ (Nat.le_refl _) (fun c hc => hlx c (List.mem_of_mem_drop hc))) hnl c1
    · exact back_hash hne hnl c1
  split at ho
  · rename_i hnum
    have hn := num_tx hnum
    have hgl : (gone l (numR l)).length ≤ 2000 := by
      unfold gone
      rw [List.length_take]
      omega
    unfold someT numZ at ho
    split at ho
    · rename_i hN
      cases ho
      have hrl := (numR_suf l).length_le
      have hnl := Nat.le_trans (nameT_len (numR l) 0) hrl
      exact back_num12 hn hgl (nameT_ne (name_opens hN)) (by omega) c2
    · split at ho
      · cases ho
        exact back_num11 hn hgl
      · cases ho
        exact back_num10 hn hgl
  split at ho
  · cases ho
    exact back_cdc
  split at ho
  · cases ho
    exact back_cdo
  split at ho
  · rename_i hN
    have hne := nameT_ne (name_opens hN)
    have hnl := Nat.le_trans (nameT_len l 0) hll
    unfold someT wordZ at ho
    split at ho
    · split at ho
      · unfold urlZ urlEnd at ho
        split at ho
        · cases ho
          exact absurd rfl k7
        · split at ho
          · cases ho
            exact absurd rfl k7
          · cases ho
            exact absurd rfl k8
      · cases ho
        exact back_func hne hnl c1 (hu rfl)
    · cases ho
      exact back_ident hne hnl c1
  split at ho
  · rename_i hA
    cases ho
    have hN : nameB (l.drop 1) = true := (Bool.and_eq_true_iff.1 hA).2
    exact back_at (nameT_ne (name_opens hN)) (Nat.le_trans (nameT_len (l.drop 1) 0) (hdr 1)) c1
  · cases ho
    exact back_single k9

end Go.Proofs.YtbfgnfcecfjlnaaDoor
namespace Go.Proofs.YtbfgnfcecfjlnaaDoor
open Go.RowKit

theorem func_len {xs : List Int} {t : Tok} (ht : t ∈ toks xs) (h2 : t.kind = 2) : t.text.length ≤ xs.length := by
  obtain ⟨l, hl0, hsuf, ho⟩ := toks_from _ xs (Nat.le_refl _) t ht
  have hll := hsuf.length_le
  unfold oneZ at ho
  split at ho
  · cases ho
  split at ho
  · cases ho
    exact absurd (show (13 : Int) = 2 from h2) (by decide)
  split at ho
  · unfold someT strZ at ho
    cases hz : quoZ (hd l 0) (l.drop 1) 0 with
    | mk a r =>
      rw [hz] at ho
      cases a with
      | none => cases ho; exact absurd (show (6 : Int) = 2 from h2) (by decide)
      | some tx => cases ho; exact absurd (show (5 : Int) = 2 from h2) (by decide)
  split at ho
  · cases ho
    exact absurd (show (4 : Int) = 2 from h2) (by decide)
  split at ho
  · unfold someT numZ at ho
    split at ho
    · cases ho
      exact absurd (show (12 : Int) = 2 from h2) (by decide)
    · split at ho
      · cases ho
        exact absurd (show (11 : Int) = 2 from h2) (by decide)
      · cases ho
        exact absurd (show (10 : Int) = 2 from h2) (by decide)
  split at ho
  · cases ho
    exact absurd (show (15 : Int) = 2 from h2) (by decide)
  split at ho
  · cases ho
    exact absurd (show (14 : Int) = 2 from h2) (by decide)
  split at ho
  · have hnl := nameT_len l 0
    unfold someT wordZ at ho
    split at ho
    · split at ho
      · unfold urlZ urlEnd at ho
        split at ho
        · cases ho
          exact absurd (show (7 : Int) = 2 from h2) (by decide)
        · split at ho
          · cases ho
            exact absurd (show (7 : Int) = 2 from h2) (by decide)
          · cases ho
            exact absurd (show (8 : Int) = 2 from h2) (by decide)
      · cases ho
        exact Nat.le_trans hnl hll
    · cases ho
      exact absurd (show (1 : Int) = 2 from h2) (by decide)
  split at ho
  · cases ho
    exact absurd (show (3 : Int) = 2 from h2) (by decide)
  · cases ho
    unfold singleZ at h2
    split at h2
    · have h3 : signZ (hd l 0) = 2 := h2
      unfold signZ at h3
      repeat (split at h3; · omega)
      omega
    · exact absurd (show (9 : Int) = 2 from h2) (by decide)
theorem str_eq_facts (a c : ByteArray) : (a = c → (a == c) = true ∧ (a.toList == c.toList) = true) ∧ (a ≠ c → (a == c) = false ∧ (a.toList == c.toList) = false) := by
  refine ⟨fun e => ?_, fun e => ?_⟩
  · subst e
    exact ⟨by rw [beq_toListBytes]; simp, by simp⟩
  · have h : (a.toList == c.toList) = false := by
      rw [Bool.eq_false_iff]
      intro h
      rw [beq_iff_eq, ByteArray.toList_eq, ByteArray.toList_eq] at h
      exact e (ByteArray.ext (Array.toList_inj.1 h))
    exact ⟨by rw [beq_toListBytes]; exact h, h⟩

set_option maxHeartbeats 2000000 in
set_option maxRecDepth 100000 in
theorem back_walk (w : World) (s : ByteArray) (ht : Tab w) : Calls Tryd.prog 4 #[.string s] w fun e w' => e = .returned (.bool true) ∧ Below w.heap.size w w' := by
  have h3 : 3 < w.heap.size := World.block_lt_of_cell? w _ ht
  by_cases hbig : 2000 < s.size
  · have hb2 : (2000 : Int) < (s.size : Int) := by omega
    have hli := lives_any w ht h3
    clear hbig
    go_enter Tryd.func4, Tryd.ntmps4
    go_wp2_with (go_at_call 8; fail)
    refine (hli).mono ?_
    rintro e w1 ⟨rfl, b1⟩
    go_wp2
    go_ret
    exact ⟨rfl, b1⟩
  · have hb2 : ¬ (2000 : Int) < (s.size : Int) := by omega
    have hcut := cut_any s w (by omega)
    have hcl := cut_len s
    have HB : Hid (∀ t ∈ cutZ s, t.kind ≠ 6 → t.kind ≠ 8 → t.kind ≠ 7 → t.kind ≠ 9 → (chars (strT t.text)).all cleanC = true → (chars (strT t.unit)).all cleanC = true → (t.kind = 2 → urlNm t.text = false) → Back t) := by
      intro t hm a1 a2 a3 a4 a5 a6 a7
      exact back_any (fun c hc => (runes_told s c hc).1) (Nat.le_trans (runes_len s) (by omega)) hm a1 a2 a3 a4 a5 a6 a7
    have HZ : Hid (∀ t ∈ cutZ s, t.kind = 2 → (strT t.text).size ≤ 1000000000000) := by
      intro t hm h2
      have h1 := func_len hm h2
      have h4 := (strT_size t.text).1
      have h5 := runes_len s
      omega
    generalize cutZ s = ts at *
    go_enter Tryd.func4, Tryd.ntmps4
    go_wp2_with (go_at_call 9; fail)
    refine (hcut).mono ?_
    rintro e w1 ⟨o1, rfl, ho, b1⟩
    obtain ⟨a, cap, rfl, hcap, hcs⟩ := TokAt.outs ho
    have h4 : 3 < w1.heap.size := by have := b1.size; omega
    clear ho hcut
    go_wp2
    go_loopw [13] (fun i wr => ∃ k : Nat, i = .int .i64 k ∧ k ≤ ts.length ∧ Below w1.heap.size w1 wr) (fun i _ => ts.length + 1 - (intOf i).toNat)
    case atStart => exact ⟨0, rfl, Nat.zero_le _, Below.refl _ w1⟩
    case round =>
      obtain ⟨k, rfl, hk, hbr⟩ := hrel
      by_cases hlt : k < ts.length
      · obtain ⟨ga, oa, rfl, qa⟩ := hcs (by omega)
        have hx := fun i (hi : i < 5) => flat_get ts k i hlt hi
        have HA : ∀ i, i < 5 → ∀ x, (tokCells ts[k])[i]? = some x → wr.cell? ⟨ga, oa + (k * 5 + i), none⟩ = some x := fun i hi x hxx => (hbr.cell (World.block_lt_of_cell? w1 _ (qa _ _ ((hx i hi).trans hxx)))).trans (qa _ _ ((hx i hi).trans hxx))
        have HT := HB.out ts[k] (List.getElem_mem hlt)
        have HZ2 := hid_mk (HZ.out ts[k] (List.getElem_mem hlt))
        generalize ts[k] = tk at *
        have a0 := HA 0 (by omega) _ rfl
        have a1 := HA 1 (by omega) _ rfl
        have a2 := HA 2 (by omega) _ rfl
        have a3 := HA 3 (by omega) _ rfl
        have a4 := HA 4 (by omega) _ rfl
        simp only [Nat.add_zero, ← Nat.add_assoc] at a0 a1 a2 a3 a4
        have HX := hid_mk HT
        clear HA hx HT qa hcs HB HZ
        rcases (show (tk.kind = 6 ∨ tk.kind = 8 ∨ tk.kind = 7 ∨ tk.kind = 9) ∨ (tk.kind ≠ 6 ∧ tk.kind ≠ 8 ∧ tk.kind ≠ 7 ∧ tk.kind ≠ 9) by omega) with hk4 | ⟨n6, n8, n7, n9⟩
        · rcases hk4 with e | e | e | e
          all_goals
            rw [e] at a0
            clear e
            go_wp2
            go_roundw
            case rel => exact ⟨k + 1, by go_num, by omega, hbr.alloc hbr.size _⟩
            case measure => simp [intOf]; omega
        · have HX2 := hid_mk (HX.out n6 n8 n7 n9)
          have z6 : (tk.kind == 6) = false := by simpa using n6
          have z8 : (tk.kind == 8) = false := by simpa using n8
          have z7 : (tk.kind == 7) = false := by simpa using n7
          have z9 : (tk.kind == 9) = false := by simpa using n9
          have hcl1 := clean_any (strT tk.text) (wr.alloc (.cells #[.int .i64 tk.kind, .string (strT tk.text), .string (strT tk.unit), .bool tk.whole, .bool tk.flag] 28))
          have HV : Hid (tokV tk = .agg #[.int .i64 tk.kind, .string (strT tk.text), .string (strT tk.unit), .bool tk.whole, .bool tk.flag]) := rfl
          have HU : Hid ((foldS (strT tk.text) = ⟨#[117, 114, 108]⟩) ↔ urlNm tk.text = true) := url_name tk.text
          have hnew := heap_alloc_new wr (.cells #[.int .i64 tk.kind, .string (strT tk.text), .string (strT tk.unit), .bool tk.whole, .bool tk.flag] 28)
          have hal : Below wr.heap.size wr (wr.alloc (.cells #[.int .i64 tk.kind, .string (strT tk.text), .string (strT tk.unit), .bool tk.whole, .bool tk.flag] 28)) := (Below.refl _ wr).alloc (Nat.le_refl _) _
          have hl9 : wr.heap.size < (wr.alloc (.cells #[.int .i64 tk.kind, .string (strT tk.text), .string (strT tk.unit), .bool tk.whole, .bool tk.flag] 28)).heap.size := by simp
          clear HX n6 n8 n7 n9
          cases hc1 : (chars (strT tk.text)).all cleanC
          · rw [hc1] at hcl1
            clear hc1
            go_wp2_with (go_at_call 7; fail)
            refine (hcl1).mono ?_
            rintro e w2 ⟨rfl, b2⟩
            go_wp2
            go_roundw
            case rel => exact ⟨k + 1, by go_num, by omega, hbr.trans ((hal.trans (b2.mono hal.size)).mono hbr.size)⟩
            case measure => simp [intOf]; omega
          · rw [hc1] at hcl1
            have HX3 := hid_mk (HX2.out hc1)
            clear hc1 HX2
            go_wp2_with (go_at_call 7; fail)
            refine (hcl1).mono ?_
            rintro e w2 ⟨rfl, b2⟩
            have hn2 := (b2.block _ hl9).trans hnew
            have B2 := hal.trans (b2.mono hal.size)
            have hl2 : wr.heap.size < w2.heap.size := Nat.lt_of_lt_of_le hl9 b2.size
            clear hcl1 hnew hal hl9 b2
            obtain ⟨c0, c1, c2, c3, c4, cf⟩ := cells5 hn2
            have hcl2 := clean_any (strT tk.unit) w2
            cases hc2 : (chars (strT tk.unit)).all cleanC
            · rw [hc2] at hcl2
              clear hc2
              go_wp2_with (go_at_call 7; fail)
              refine (hcl2).mono ?_
              rintro e w3 ⟨rfl, b3⟩
              go_wp2
              go_roundw
              case rel => exact ⟨k + 1, by go_num, by omega, hbr.trans ((B2.trans (b3.mono (Nat.le_of_lt hl2))).mono hbr.size)⟩
              case measure => simp [intOf]; omega
            · rw [hc2] at hcl2
              have HX4 := hid_mk (HX3.out hc2)
              clear hc2 HX3
              go_wp2_with (go_at_call 7; fail)
              refine (hcl2).mono ?_
              rintro e w3 ⟨rfl, b3⟩
              have hn3 := (b3.block _ hl2).trans hn2
              have B3 := B2.trans (b3.mono (Nat.le_of_lt hl2))
              have hl3 : wr.heap.size < w3.heap.size := Nat.lt_of_lt_of_le hl2 b3.size
              clear hcl2 hn2 B2 hl2 b3 c0 c1 c2 c3 c4 cf
              obtain ⟨c0, c1, c2, c3, c4, cf⟩ := cells5 hn3
              by_cases h2 : tk.kind = 2
              · have z2 : (tk.kind == 2) = true := by simpa using h2
                have hfold := fold_any (strT tk.text) w3 (HZ2.out h2)
                cases hu : urlNm tk.text
                · have hne : foldS (strT tk.text) ≠ ⟨#[117, 114, 108]⟩ := fun e => by rw [HU.out.1 e] at hu; cases hu
                  obtain ⟨y1, y2⟩ := (str_eq_facts (foldS (strT tk.text)) ⟨#[117, 114, 108]⟩).2 hne
                  rw [show (⟨#[117, 114, 108]⟩ : ByteArray).toList = [117, 114, 108] by rw [ByteArray.toList_eq]] at y2
                  have hback := HX4.out (fun _ => hu)
                  generalize foldS (strT tk.text) = fs at *
                  clear HX4 HU hne hu HZ2 h2
                  go_wp2_with (go_at_call 12; fail)
                  refine (hfold).mono ?_
                  rintro e w4 ⟨rfl, b4⟩
                  have hn4 := (b4.block _ hl3).trans hn3
                  have B4 := B3.trans (b4.mono (Nat.le_of_lt hl3))
                  have hl4 : wr.heap.size < w4.heap.size := Nat.lt_of_lt_of_le hl3 b4.size
                  clear hfold hn3 B3 hl3 b4 c0 c1 c2 c3 c4 cf
                  obtain ⟨c0, c1, c2, c3, c4, cf⟩ := cells5 hn4
                  obtain ⟨src, u, hsrc, hss, hcu, u0, u1, u2, u3, u4⟩ := hback
                  have hB1 := hbr.trans (B4.mono hbr.size)
                  have hB0 := b1.trans (hB1.mono b1.size)
                  have ht4 := tab_below ht hB0 h3
                  have h34 : 3 < w4.heap.size := by have := hB0.size; omega
                  have hcall := hsrc w4 ht4 h34
                  rw [HV.out] at hcall
                  have HCU := hid_mk hcu
                  clear hsrc HV hcu
                  go_wp2_with (go_at_call 13; fail)
                  refine (hcall).mono ?_
                  rintro e w5 ⟨rfl, b5⟩
                  have hn5 := (b5.block _ hl4).trans hn4
                  have hl5 : wr.heap.size < w5.heap.size := Nat.lt_of_lt_of_le hl4 b5.size
                  have B5 := hB1.trans (b5.mono hB1.size)
                  have hcut := cut_any src w5 hss
                  rw [HCU.out] at hcut
                  clear hcall ht4 h34 HCU
                  go_wp2_with (go_at_call 9; fail)
                  refine (hcut).mono ?_
                  rintro e w6 ⟨o6, rfl, ho6, b6⟩
                  have hn6 := (b6.block _ hl5).trans hn5
                  have B6 := B5.trans (b6.mono B5.size)
                  obtain ⟨g6, cap6, rfl, hg6, hcap6, q0, q1, q2, q3, q4⟩ := cells_one ho6
                  rw [u0] at q0
                  rw [u1] at q1
                  rw [u2] at q2
                  rw [u3] at q3
                  rw [u4] at q4
                  obtain ⟨d0, d1, d2, d3, d4, df⟩ := cells5 hn6
                  clear hcut ho6 hn6 hn5 hn4 c0 c1 c2 c3 c4 cf u0 u1 u2 u3 u4 a0 a1 a2 a3 a4 hg6
                  generalize tk.kind = t1 at *
                  generalize strT tk.text = t2 at *
                  generalize strT tk.unit = t3 at *
                  generalize tk.whole = t4 at *
                  generalize tk.flag = t5 at *
                  generalize wr.heap.size = bt at *
                  go_wp2
                  go_quiet (fail)
                  go_wp2
                  go_roundw
                  case rel => exact ⟨k + 1, by go_num, by omega, B6.trans ((Kept.drewN w6.heap.size w6 _).below (Nat.le_refl _) |>.mono B6.size)⟩
                  case measure => simp [intOf]; omega
                · have he : foldS (strT tk.text) = ⟨#[117, 114, 108]⟩ := HU.out.2 hu
                  rw [he] at hfold
                  clear HX4 HU he hu HZ2 h2
                  go_wp2_with (go_at_call 12; fail)
                  refine (hfold).mono ?_
                  rintro e w4 ⟨rfl, b4⟩
                  go_wp2
                  go_roundw
                  case rel => exact ⟨k + 1, by go_num, by omega, hbr.trans ((B3.trans (b4.mono (Nat.le_of_lt hl3))).mono hbr.size)⟩
                  case measure => simp [intOf]; omega
              · have z2 : (tk.kind == 2) = false := by simpa using h2
                have hback := HX4.out (fun e => absurd e h2)
                clear HX4 HU HZ2 h2
                obtain ⟨src, u, hsrc, hss, hcu, u0, u1, u2, u3, u4⟩ := hback
                have hB1 := hbr.trans (B3.mono hbr.size)
                have hB0 := b1.trans (hB1.mono b1.size)
                have ht4 := tab_below ht hB0 h3
                have h34 : 3 < w3.heap.size := by have := hB0.size; omega
                have hcall := hsrc w3 ht4 h34
                rw [HV.out] at hcall
                have HCU := hid_mk hcu
                clear hsrc HV hcu
                go_wp2_with (go_at_call 13; fail)
                refine (hcall).mono ?_
                rintro e w5 ⟨rfl, b5⟩
                have hn5 := (b5.block _ hl3).trans hn3
                have hl5 : wr.heap.size < w5.heap.size := Nat.lt_of_lt_of_le hl3 b5.size
                have B5 := hB1.trans (b5.mono hB1.size)
                have hcut := cut_any src w5 hss
                rw [HCU.out] at hcut
                clear hcall ht4 h34 HCU
                go_wp2_with (go_at_call 9; fail)
                refine (hcut).mono ?_
                rintro e w6 ⟨o6, rfl, ho6, b6⟩
                have hn6 := (b6.block _ hl5).trans hn5
                have B6 := B5.trans (b6.mono B5.size)
                obtain ⟨g6, cap6, rfl, hg6, hcap6, q0, q1, q2, q3, q4⟩ := cells_one ho6
                rw [u0] at q0
                rw [u1] at q1
                rw [u2] at q2
                rw [u3] at q3
                rw [u4] at q4
                obtain ⟨d0, d1, d2, d3, d4, df⟩ := cells5 hn6
                clear hcut ho6 hn6 hn5 hn3 c0 c1 c2 c3 c4 cf u0 u1 u2 u3 u4 a0 a1 a2 a3 a4 hg6
                generalize tk.kind = t1 at *
                generalize strT tk.text = t2 at *
                generalize strT tk.unit = t3 at *
                generalize tk.whole = t4 at *
                generalize tk.flag = t5 at *
                generalize wr.heap.size = bt at *
                go_wp2
                go_quiet (fail)
                go_wp2
                go_roundw
                case rel => exact ⟨k + 1, by go_num, by omega, B6.trans ((Kept.drewN w6.heap.size w6 _).below (Nat.le_refl _) |>.mono B6.size)⟩
                case measure => simp [intOf]; omega
      · have hB0 := b1.trans (hbr.mono b1.size)
        have hli := lives_any wr (tab_below ht hB0 h3) (by have := hB0.size; omega)
        go_wp2_with (go_at_call 8; fail)
        refine (hli).mono ?_
        rintro e w2 ⟨rfl, b2⟩
        go_wp2
        go_ret
        exact ⟨rfl, hB0.trans (b2.mono hB0.size)⟩

end Go.Proofs.YtbfgnfcecfjlnaaDoor
