/- strings.Trim at a cutset of one blank. text.Fold, whatever the text. nth.cutBehind, whatever the text. nth.cut, whatever the text. -/
import Derived.Test.YtdibldcnklgcjaaGreatDoorNSignAhead
import Derived.Laws.IdiomStrings
import Derived.Laws.BytesArg
namespace Go.Proofs.YtdibldcnklgcjaaGreatDoor.N
open Go.RowKit

def leftL : List Int → List Int
  | [] => []
  | c :: r => if c = 32 then leftL r else c :: r
def rightL (l : List Int) : List Int := (leftL l.reverse).reverse

set_option maxHeartbeats 400000 in
set_option maxRecDepth 100000 in
theorem trimLeft_any (l : List Int) (hl : ∀ n ∈ l, 0 ≤ n ∧ n < 256) (hn : l.length ≤ 1000000000000) (w : World) :
    Calls Tryz.prog 120 #[.string (strOfNums l), .int .u8 32] w fun e w' => e = .returned (.string (strOfNums (leftL l))) ∧ w = w' := by
  go_enter Tryz.func120, Tryz.ntmps120
  go_wp2
  go_loop [0] (fun a0 => ∃ m : List Int, a0 = .string (strOfNums m) ∧ leftL m = leftL l ∧ m.length ≤ l.length ∧ ∀ n ∈ m, 0 ≤ n ∧ n < 256) (fun a0 => match a0 with | .string s => s.size | _ => 0)
  case atStart => exact ⟨l, rfl, rfl, Nat.le_refl _, hl⟩
  case round =>
    obtain ⟨m, rfl, hm, hml, hmb⟩ := hrel
    have HM := hid_mk hm
    clear hm
    have hsz := strOf_size m
    cases m with
    | nil =>
      have HR : Hid (leftL l = []) := HM.out.symm
      have he : strOfNums [] = ⟨#[]⟩ := rfl
      rw [he]
      clear hsz
      go_wp2
      go_ret
      exact ⟨by rw [HR.out]; rfl, rfl⟩
    | cons c r =>
      have h0 : 0 < (strOfNums (c :: r)).size := by rw [hsz]; simp
      have hc := hmb c (by simp)
      have hg : (((strOfNums (c :: r))[0]'h0).toNat : Int) = c := by
        have h1 := get_at (strOfNums (c :: r)) h0
        have h2 := str_get hmb 0
        rw [h1] at h2
        have h3 : ((c :: r).getD 0 0) = c := rfl
        rw [h3] at h2
        omega
      have HX : Hid ((strOfNums (c :: r)).extract 1 (strOfNums (c :: r)).size = strOfNums r) := by
        show _ = _
        rw [hsz]
        apply ByteArray.ext
        simp [strOfNums]
        exact List.take_of_length_le (by simp)
      have HLEN : Hid ((strOfNums (c :: r)).size = r.length + 1) := by show _ = _; rw [hsz]; rfl
      have hsb : (strOfNums (c :: r)).size ≤ 1000000000000 := by rw [hsz]; omega
      clear hsz
      generalize hse : strOfNums (c :: r) = s at *
      have HSE := hid_mk hse
      clear hse
      by_cases h32 : c = 32
      · have z1 : (((s[0]'h0).toNat : Int) == 32) = true := by rw [hg, h32]; rfl
        have HL : Hid (leftL r = leftL l) := by
          show _ = _
          rw [← HM.out, leftL, if_pos h32]
        clear hg
        go_wp2
        go_round
        case rel => exact ⟨r, congrArg Value.string HX.out, HL.out, by simp at hml; omega, fun n hn => hmb n (by simp [hn])⟩
        case measure =>
          show (s.extract 1 s.size).size < s.size
          rw [HX.out, strOf_size, HLEN.out]
          omega
      · have z1 : (((s[0]'h0).toNat : Int) == 32) = false := by rw [hg]; simpa using h32
        have HL : Hid (strOfNums (leftL l) = s) := by
          show _ = _
          rw [← HM.out, leftL, if_neg h32]
          exact HSE.out
        clear hg
        go_wp2
        go_ret
        exact ⟨by rw [HL.out]; rfl, rfl⟩

theorem nil_or_snoc (m : List Int) : m = [] ∨ ∃ r c, m = r ++ [c] := by
  rcases List.eq_nil_or_concat m with h | ⟨r, c, h⟩
  · exact .inl h
  · exact .inr ⟨r, c, by rw [h, List.concat_eq_append]⟩
theorem rightL_snoc (m : List Int) (c : Int) : rightL (m ++ [c]) = if c = 32 then rightL m else m ++ [c] := by
  unfold rightL
  rw [List.reverse_append, List.reverse_singleton, List.singleton_append, leftL]
  split
  · rfl
  · simp
theorem str_last (m : List Int) (c : Int) (hb : ∀ n ∈ m ++ [c], 0 ≤ n ∧ n < 256) (h : m.length < (strOfNums (m ++ [c])).size) : (((strOfNums (m ++ [c]))[m.length]'h).toNat : Int) = c := by
  have h1 : (strOfNums (m ++ [c])).get! m.length = (strOfNums (m ++ [c]))[m.length]'h := by
    show (strOfNums (m ++ [c])).data[m.length]! = (strOfNums (m ++ [c])).data[m.length]
    rw [getElem!_pos (strOfNums (m ++ [c])).data m.length h]
  have h2 := str_get hb m.length
  rw [h1] at h2
  have h3 : (m ++ [c]).getD m.length 0 = c := by simp [List.getD]
  rw [h3] at h2
  have hc := hb c (by simp)
  omega
set_option maxHeartbeats 400000 in
set_option maxRecDepth 100000 in
theorem trimRight_any (l : List Int) (hl : ∀ n ∈ l, 0 ≤ n ∧ n < 256) (hn : l.length ≤ 1000000000000) (w : World) :
    Calls Tryz.prog 121 #[.string (strOfNums l), .int .u8 32] w fun e w' => e = .returned (.string (strOfNums (rightL l))) ∧ w = w' := by
  go_enter Tryz.func121, Tryz.ntmps121
  go_wp2
  go_loop [0] (fun a0 => ∃ m : List Int, a0 = .string (strOfNums m) ∧ rightL m = rightL l ∧ m.length ≤ l.length ∧ ∀ n ∈ m, 0 ≤ n ∧ n < 256) (fun a0 => match a0 with | .string s => s.size | _ => 0)
  case atStart => exact ⟨l, rfl, rfl, Nat.le_refl _, hl⟩
  case round =>
    obtain ⟨m, rfl, hm, hml, hmb⟩ := hrel
    have HM := hid_mk hm
    clear hm
    have hsz := strOf_size m
    rcases (show m = [] ∨ ∃ r c, m = r ++ [c] by exact nil_or_snoc m) with rfl | ⟨r, c, rfl⟩
    · have HR : Hid (rightL l = []) := HM.out.symm
      have he : strOfNums [] = ⟨#[]⟩ := rfl
      rw [he]
      clear hsz
      go_wp2
      go_ret
      exact ⟨by rw [HR.out]; rfl, rfl⟩
    · have hlast : r.length < (strOfNums (r ++ [c])).size := by rw [hsz]; simp
      have hg := str_last r c hmb hlast
      have HX : Hid ((strOfNums (r ++ [c])).extract 0 r.length = strOfNums r) := by
        show _ = _
        apply ByteArray.ext
        simp [strOfNums]
      have hlen : (strOfNums (r ++ [c])).size = r.length + 1 := by rw [hsz]; simp
      have hrl : r.length + 1 ≤ 1000000000000 := by simp at hml; omega
      clear hsz
      generalize hse : strOfNums (r ++ [c]) = s at *
      have HSE := hid_mk hse
      clear hse
      by_cases h32 : c = 32
      · have z1 : (((s[r.length]'hlast).toNat : Int) == 32) = true := by rw [hg, h32]; rfl
        have HL : Hid (rightL r = rightL l) := by
          show _ = _
          rw [← HM.out, rightL_snoc, if_pos h32]
        clear hg
        go_wp2
        go_round
        case rel => exact ⟨r, congrArg Value.string HX.out, HL.out, by simp at hml; omega, fun n hn => hmb n (by simp [hn])⟩
        case measure =>
          show (s.extract 0 r.length).size < s.size
          rw [HX.out, strOf_size, hlen]
          omega
      · have z1 : (((s[r.length]'hlast).toNat : Int) == 32) = false := by rw [hg]; simpa using h32
        have HL : Hid (strOfNums (rightL l) = s) := by
          show _ = _
          rw [← HM.out, rightL_snoc, if_neg h32]
          exact HSE.out
        clear hg
        go_wp2
        go_ret
        exact ⟨by rw [HL.out]; rfl, rfl⟩

theorem leftL_byte : ∀ (l : List Int), (∀ n ∈ l, 0 ≤ n ∧ n < 256) → ∀ n ∈ leftL l, 0 ≤ n ∧ n < 256
  | [], _, n, hn => by cases hn
  | c :: r, h, n, hn => by
    rw [leftL] at hn
    split at hn
    · exact leftL_byte r (fun m hm => h m (by simp [hm])) n hn
    · exact h n hn
theorem rightL_byte (l : List Int) (h : ∀ n ∈ l, 0 ≤ n ∧ n < 256) : ∀ n ∈ rightL l, 0 ≤ n ∧ n < 256 := by
  intro n hn
  unfold rightL at hn
  exact leftL_byte l.reverse (fun m hm => h m (by simpa using hm)) n (by simpa using hn)
theorem leftL_len : ∀ l : List Int, (leftL l).length ≤ l.length
  | [] => Nat.le_refl _
  | c :: r => by
    rw [leftL]
    have := leftL_len r
    split
    · rw [List.length_cons]; omega
    · exact Nat.le_refl _
theorem rightL_len (l : List Int) : (rightL l).length ≤ l.length := by
  unfold rightL
  have := leftL_len l.reverse
  simpa using this
set_option maxHeartbeats 400000 in
set_option maxRecDepth 100000 in
/-- strings.Trim of blanks. -/
theorem trim_any (l : List Int) (hl : ∀ n ∈ l, 0 ≤ n ∧ n < 256) (hn : l.length ≤ 1000000000000) (w : World) :
    Calls Tryz.prog 115 #[.string (strOfNums l), .string ⟨#[32]⟩] w fun e w' => e = .returned (.string (strOfNums (leftL (rightL l)))) ∧ Below w.heap.size w w' := by
  have hr := fun w => trimRight_any l hl hn w
  have hle := fun w => trimLeft_any (rightL l) (rightL_byte l hl) (Nat.le_trans (rightL_len l) hn) w
  have hsz := strOf_size l
  cases l with
  | nil =>
    have he : strOfNums [] = ⟨#[]⟩ := rfl
    rw [he]
    clear hsz hr hle
    go_enter Tryz.func115, Tryz.ntmps115
    go_wp2
    go_ret
    exact ⟨rfl, Below.refl _ w⟩
  | cons c r =>
    have h0 : 0 < (strOfNums (c :: r)).size := by rw [hsz]; simp
    have h3 : ((strOfNums (c :: r)).toList == []) = false := by
      rw [Bool.eq_false_iff]
      intro h2
      rw [beq_iff_eq, ByteArray.toList_eq] at h2
      have h4 := congrArg List.length h2
      have h5 : (strOfNums (c :: r)).size = 0 := by simpa using h4
      omega
    have h4 : (strOfNums (c :: r) == ⟨#[]⟩) = false := by rw [beq_toListBytes, ByteArray.toList_eq ⟨#[]⟩]; exact h3
    generalize strOfNums (leftL (rightL (c :: r))) = T at *
    generalize strOfNums (rightL (c :: r)) = R at *
    generalize strOfNums (c :: r) = s at *
    clear hsz hl hn h0
    have hb32 : (((⟨#[32]⟩ : ByteArray)[0]'(by decide)).toNat : Int) = 32 := rfl
    go_enter Tryz.func115, Tryz.ntmps115
    go_wp2
    go_quiet (first | (go_at_call 121; refine Calls.quiet_of_same ((hr _).mono fun _ _ ⟨x, y⟩ => ⟨x, y.symm⟩)) | (go_at_call 120; refine Calls.quiet_of_same ((hle _).mono fun _ _ ⟨x, y⟩ => ⟨x, y.symm⟩)))
    go_wp2
    go_ret
    exact ⟨rfl, below_drewN3 _ _ _⟩

end Go.Proofs.YtdibldcnklgcjaaGreatDoor.N
namespace Go.Proofs.YtdibldcnklgcjaaGreatDoor.N
open Go.RowKit

theorem getD_bytes (s : ByteArray) (j : Nat) (h : j < s.size) : (s.data.toList.map fun b => (b.toNat : Int)).getD j 0 = ((s.get! j).toNat : Int) := by
  cases s with
  | mk d =>
    have h' : j < d.size := h
    simp [List.getD, ByteArray.get!, getElem!_pos, h']

theorem conv {w : World} {b off cap : Nat} {s : ByteArray} (hc : ∀ j, j < s.size → w.cell? ⟨b, off + j, none⟩ = some (.int .u8 (s.get! j).toNat)) :
    (convert 50 9 (.slice (some ⟨b, off, none⟩) s.size cap)).run Tryz.prog w = .ok (.string s) w := by
  have := run_convert_bytes_arg (P := Tryz.prog) w 50 5 Tryz.underlying50 Tryz.underlying5 b off s.size cap (s.data.toList.map fun b => (b.toNat : Int)) (by rw [List.length_map]; rfl) (fun i hi => by rw [getD_bytes s i hi]; exact hc i hi) 9 Tryz.underlying9
  rw [strOf] at this
  exact this

def foldN (c : Nat) : Nat := if 65 ≤ c ∧ c ≤ 90 then c + 32 else c
def foldB (b : UInt8) : UInt8 := UInt8.ofNat (foldN b.toNat)
def foldS (s : ByteArray) : ByteArray := ⟨s.data.map foldB⟩

theorem foldB_nat (b : UInt8) : (foldB b).toNat = foldN b.toNat := by
  have := b.toNat_lt
  unfold foldB foldN
  split <;> simp <;> omega
theorem foldS_size (s : ByteArray) : (foldS s).size = s.size := by
  cases s with
  | mk d => exact Array.size_map
theorem foldS_get (s : ByteArray) (j : Nat) (h : j < s.size) : (foldS s).get! j = foldB (s.get! j) := by
  cases s with
  | mk d =>
    have h' : j < d.size := h
    simp [foldS, ByteArray.get!, getElem!_pos, h']
theorem foldS_twice (s : ByteArray) : foldS (foldS s) = foldS s := by
  cases s with
  | mk d =>
    simp only [foldS, Array.map_map]
    congr 1
    apply Array.map_congr_left
    intro b _
    apply UInt8.toNat.inj
    simp only [Function.comp, foldB_nat]
    unfold foldN
    have := b.toNat_lt
    repeat' split
    all_goals omega

/-- What the conversion of a string to bytes lays. -/
theorem bytesOf (s : ByteArray) (w : World) : ∃ g cap W, (convert 9 50 (.string s)).run Tryz.prog w = .ok (.slice (some ⟨g, 0, none⟩) s.size cap) W ∧ s.size ≤ cap ∧ w.heap.size ≤ g ∧
    (∀ j, j < s.size → W.cell? ⟨g, j, none⟩ = some (.int .u8 (s.get! j).toNat)) ∧ (∀ j, j < s.size → W.frozen? ⟨g, j, none⟩ = false) ∧ Below w.heap.size w W := by
  have hcv := run_bytes_of_string (P := Tryz.prog) w 9 50 5 s Tryz.underlying9 Tryz.underlying50 Tryz.underlying5
  have hge := grownCap_ge w s.size 0 5
  have hsz : (bytesRow s (grownCap w s.size 0 5)).size = grownCap w s.size 0 5 := by
    have : s.data.size = s.size := rfl
    simp [bytesRow]
    omega
  generalize grownCap w s.size 0 5 = cap at *
  have hnew : (w.drew.alloc (.cells (bytesRow s cap) 5 ((bytesRow s cap).size, (bytesRow s cap).size + 1))).heap[w.heap.size]? = some (.cells (bytesRow s cap) 5 ((bytesRow s cap).size, (bytesRow s cap).size + 1)) := heap_alloc_new w.drew _
  refine ⟨w.heap.size, cap, _, hcv, hge, Nat.le_refl _, fun j hj => ?_, fun j hj => ?_, ((Below.refl _ w).drew).alloc (Nat.le_refl _) _⟩
  · have hd : j < s.data.size := hj
    have hg : (bytesRow s cap)[j]? = some (.int .u8 (s.get! j).toNat) := by
      have hgs : s.get! j = s.data[j] := by
        cases s with
        | mk d => exact getElem!_pos d j hd
      rw [hgs]
      unfold bytesRow
      rw [Array.getElem?_append_left (by simpa using hd), Array.getElem?_map, Array.getElem?_eq_getElem hd]
      rfl
    simp only [World.cell?, hnew]
    exact hg
  · simp only [World.frozen?, hnew]
    simp
    omega

def FoldAt (s : ByteArray) (g k : Nat) (w : World) : Prop := ∀ j, j < s.size → w.cell? ⟨g, j, none⟩ = some (.int .u8 (if j < k then foldN (s.get! j).toNat else (s.get! j).toNat : Nat))

theorem fold_step {s : ByteArray} {g k : Nat} {w : World} (h : FoldAt s g k w) (hk : k < s.size) {x : Int} (hx : x = foldN (s.get! k).toNat) : FoldAt s g (k + 1) (w.setCell ⟨g, k, none⟩ (.int .u8 x)) := by
  intro j hj
  by_cases e : j = k
  · subst e
    rw [World.cell?_setCell_same _ _ _ (h j hj), if_pos (by omega), hx]
  · rw [World.cell?_setCell_other _ _ _ _ (by simp; try omega), h j hj]
    by_cases h1 : j < k
    · rw [if_pos h1, if_pos (by omega)]
    · rw [if_neg h1, if_neg (by omega)]

theorem fold_keep {s : ByteArray} {g k : Nat} {w : World} (h : FoldAt s g k w) (hx : foldN (s.get! k).toNat = (s.get! k).toNat) : FoldAt s g (k + 1) w := by
  intro j hj
  rw [h j hj]
  by_cases e : j = k
  · subst e
    rw [if_neg (by omega), if_pos (by omega), hx]
  · by_cases h1 : j < k
    · rw [if_pos h1, if_pos (by omega)]
    · rw [if_neg h1, if_neg (by omega)]

theorem fold_conv {s : ByteArray} {g cap : Nat} {w : World} (h : FoldAt s g s.size w) : (convert 50 9 (.slice (some ⟨g, 0, none⟩) s.size cap)).run Tryz.prog w = .ok (.string (foldS s)) w := by
  have := conv (w := w) (b := g) (off := 0) (cap := cap) (s := foldS s) (fun j hj => by
    rw [foldS_size] at hj
    rw [Nat.zero_add, h j hj, if_pos hj, foldS_get s j hj, foldB_nat])
  rw [foldS_size] at this
  exact this

set_option maxHeartbeats 4000000 in
set_option maxRecDepth 1000000 in
theorem fold_any (s : ByteArray) (w : World) (hs : s.size ≤ 1000000000000) :
    Calls Tryz.prog 59 #[.string s] w fun e w' => e = .returned (.string (foldS s)) ∧ Below w.heap.size w w' := by
  obtain ⟨g, cap, W, hcv, hcap, hg, hcell, hfr, hb⟩ := bytesOf s w
  go_enter Tryz.func59, Tryz.ntmps59
  go_wp2
  clear hcv
  go_loopw [10] (fun i wr => ∃ k : Nat, k ≤ s.size ∧ i = .int .i64 k ∧ FoldAt s g k wr ∧ (∀ j, j < s.size → wr.frozen? ⟨g, j, none⟩ = false) ∧ Below w.heap.size w wr) (fun i _ => s.size - (intOf i).toNat)
  case atStart => exact ⟨0, Nat.zero_le _, rfl, fun j hj => by simpa using hcell j hj, hfr, hb⟩
  case round =>
    clear hcell hfr hb
    obtain ⟨k, hk, rfl, hcell, hfr, hb⟩ := hrel
    by_cases hlt : k < s.size
    · obtain ⟨c, hc⟩ : ∃ c : Nat, (s.get! k).toNat = c := ⟨_, rfl⟩
      have ck : wr.cell? ⟨g, k, none⟩ = some (.int .u8 c) := by
        have := hcell k hlt
        rw [if_neg (Nat.lt_irrefl k), hc] at this
        exact this
      have fk := hfr k hlt
      have h256 : c < 256 := by rw [← hc]; exact (s.get! k).toNat_lt
      have HF : Hid (∀ j, j < s.size → wr.frozen? ⟨g, j, none⟩ = false) := hfr
      clear hfr
      by_cases h : 65 ≤ c ∧ c ≤ 90
      · have HX : Hid (((c : Int) + 32) = foldN (s.get! k).toNat) := by
          show _ = _
          rw [hc, foldN, if_pos h]
          omega
        obtain ⟨h1, h2⟩ := h
        clear hc
        go_wp2
        go_roundw
        case rel => exact ⟨k + 1, by omega, by go_num, fold_step hcell hlt (by rw [← HX.out]; try omega), fun j hj => by rw [World.frozen?_setCell]; exact HF.out j hj, hb.setCell hg _⟩
        case measure => simp [intOf]; omega
      · have HX : Hid (foldN (s.get! k).toNat = (s.get! k).toNat) := by
          show _ = _
          rw [hc, foldN, if_neg h]
        clear hc
        rcases (show c < 65 ∨ 90 < c by omega) with h1 | h1
        all_goals
          clear h
          go_wp2
          go_roundw
          case rel => exact ⟨k + 1, by omega, by go_num, fold_keep hcell HX.out, HF.out, hb⟩
          case measure => simp [intOf]; omega
    · have hks : k = s.size := by omega
      rw [hks] at hcell
      have hcv2 := fold_conv (cap := cap) hcell
      clear hks
      go_wp2
      go_ret
      exact ⟨rfl, hb⟩

end Go.Proofs.YtdibldcnklgcjaaGreatDoor.N
namespace Go.Proofs.YtdibldcnklgcjaaGreatDoor.N
open Go.RowKit

def trimZ (s : ByteArray) : ByteArray := if h : 0 < s.size then (if (s[0]'h).toNat = 32 then s.extract 1 s.size else s) else s
theorem trim_size (s : ByteArray) : (trimZ s).size ≤ s.size := by
  unfold trimZ
  split
  · split
    · simp
    · exact Nat.le_refl _
  · exact Nat.le_refl _
theorem sgn_size (s : ByteArray) : (sgnZ s).2.size ≤ s.size := by
  unfold sgnZ
  split
  · split
    · simp
    · split
      · simp
      · exact Nat.le_refl _
  · exact Nat.le_refl _
set_option maxHeartbeats 400000 in
theorem trimPrefix_any (s : ByteArray) (w : World) : Calls Tryz.prog 138 #[.string s, .string ⟨#[32]⟩] w fun e w' => e = .returned (.string (trimZ s)) ∧ w = w' := by
  by_cases h0 : 0 < s.size
  · have f1 := first_list s h0 32
    have h1 : (1 : Int) ≤ (s.size : Int) := by omega
    by_cases h32 : (s[0]'h0).toNat = 32
    · have e32 : (s[0]'h0) = 32 := UInt8.toNat_inj.1 h32
      have HS : Hid (trimZ s = s.extract 1 s.size) := by
        show _ = _
        unfold trimZ
        rw [dif_pos h0, if_pos h32]
      have z1 : ((s.extract 0 1).toList == [32]) = true := by rw [f1, e32]; rfl
      clear f1 h32 e32
      go_enter Tryz.func138, Tryz.ntmps138
      go_wp2
      go_ret
      exact ⟨congrArg (fun s => Ending.returned (.string s)) HS.out.symm, rfl⟩
    · have HS : Hid (trimZ s = s) := by
        show _ = _
        unfold trimZ
        rw [dif_pos h0, if_neg h32]
      have n32 : ((s[0]'h0) == 32) = false := by
        rw [Bool.eq_false_iff]
        intro h
        have : (s[0]'h0) = 32 := by simpa using h
        rw [this] at h32
        exact h32 rfl
      have z1 : ((s.extract 0 1).toList == [32]) = false := by rw [f1, n32]
      clear f1 h32 n32
      go_enter Tryz.func138, Tryz.ntmps138
      go_wp2
      go_ret
      exact ⟨congrArg (fun s => Ending.returned (.string s)) HS.out.symm, rfl⟩
  · have e0 := empty_of (show s.size = 0 by omega)
    subst e0
    go_enter Tryz.func138, Tryz.ntmps138
    go_wp2
    go_ret
    exact ⟨rfl, rfl⟩

theorem dig_take : ∀ l : List Int, Dig (l.take (digN l))
  | [], c, hc => by simp at hc
  | x :: r, c, hc => by
    rw [digN] at hc
    split at hc
    · rename_i h
      rw [List.take_succ_cons] at hc
      rcases List.mem_cons.1 hc with rfl | hc
      · unfold digitZ at h
        simp at h
        exact h
      · exact dig_take r c hc
    · simp at hc
def dirB (sg : ByteArray) : Int := if sg = ⟨#[45]⟩ then -1 else 1
theorem sgn_cases (s : ByteArray) : (sgnZ s).1 = ⟨#[43]⟩ ∨ (sgnZ s).1 = ⟨#[45]⟩ ∨ (sgnZ s).1 = ⟨#[]⟩ := by
  unfold sgnZ
  split
  · split
    · exact .inl rfl
    · split
      · exact .inr (.inl rfl)
      · exact .inr (.inr rfl)
  · exact .inr (.inr rfl)
/-- What stands behind n. -/
def behindZ (s : ByteArray) : Int × Bool :=
  if s.size = 0 then (0, true)
  else if (sgnZ (trimZ s)).1 = ⟨#[]⟩ ∨ digN (bytesL (trimZ (sgnZ (trimZ s)).2)) = 0 ∨ digN (bytesL (trimZ (sgnZ (trimZ s)).2)) < (trimZ (sgnZ (trimZ s)).2).size then (0, false)
  else (dirB (sgnZ (trimZ s)).1 * satL ((bytesL (trimZ (sgnZ (trimZ s)).2)).take (digN (bytesL (trimZ (sgnZ (trimZ s)).2)))), true)
theorem ret2_p {v : Int × Bool} {a : Int} {b : Bool} (h : v = (a, b)) : Ending.returned (.tuple #[.int .i64 a, .bool b]) = .returned (.tuple #[.int .i64 v.1, .bool v.2]) := by rw [h]
theorem empty_facts (s : ByteArray) : (s.size = 0 → s = ⟨#[]⟩) ∧ (0 < s.size → (s == ⟨#[]⟩) = false ∧ (s.toList == []) = false ∧ (s != ⟨#[]⟩) = true) := by
  refine ⟨empty_of, fun h => ?_⟩
  have h3 : (s.toList == []) = false := by
    rw [Bool.eq_false_iff]
    intro h2
    rw [beq_iff_eq, ByteArray.toList_eq] at h2
    have h4 := congrArg List.length h2
    have h5 : s.size = 0 := by simpa using h4
    omega
  have h4 : (s == ⟨#[]⟩) = false := by rw [beq_toListBytes, ByteArray.toList_eq ⟨#[]⟩]; exact h3
  exact ⟨h4, h3, by simp [bne, h4]⟩

set_option maxHeartbeats 2000000 in
set_option maxRecDepth 100000 in
theorem cutBehind_any (s : ByteArray) (hs : s.size ≤ 1000000000000) (w : World) :
    Calls Tryz.prog 131 #[.string s] w fun e w' => e = .returned (.tuple #[.int .i64 (behindZ s).1, .bool (behindZ s).2]) ∧ Below w.heap.size w w' := by
  have hB : Below w.heap.size w w := Below.refl _ w
  by_cases h0 : 0 < s.size
  · obtain ⟨n1, n2, n3⟩ := (empty_facts s).2 h0
    have ht := trimPrefix_any s w
    have hsg := fun w => signAhead_any (trimZ s) w
    have ht2 := fun w => trimPrefix_any (sgnZ (trimZ s)).2 w
    have hsz : (trimZ (sgnZ (trimZ s)).2).size ≤ 1000000000000 := Nat.le_trans (trim_size _) (Nat.le_trans (sgn_size _) (Nat.le_trans (trim_size _) hs))
    have hnu := fun w => numberAhead_any (trimZ (sgnZ (trimZ s)).2) hsz w
    have HV : Hid (behindZ s = if (sgnZ (trimZ s)).1 = ⟨#[]⟩ ∨ digN (bytesL (trimZ (sgnZ (trimZ s)).2)) = 0 ∨ digN (bytesL (trimZ (sgnZ (trimZ s)).2)) < (trimZ (sgnZ (trimZ s)).2).size then (0, false) else (dirB (sgnZ (trimZ s)).1 * satL ((bytesL (trimZ (sgnZ (trimZ s)).2)).take (digN (bytesL (trimZ (sgnZ (trimZ s)).2)))), true)) := by
      show _ = _
      unfold behindZ
      rw [if_neg (by omega)]
    have hsc := sgn_cases (trimZ s)
    have hbd : 0 ≤ satL ((bytesL (trimZ (sgnZ (trimZ s)).2)).take (digN (bytesL (trimZ (sgnZ (trimZ s)).2)))) ∧ satL ((bytesL (trimZ (sgnZ (trimZ s)).2)).take (digN (bytesL (trimZ (sgnZ (trimZ s)).2)))) ≤ 1000000 := satL_bd _ (dig_take _)
    have hrs : ((trimZ (sgnZ (trimZ s)).2).extract (digN (bytesL (trimZ (sgnZ (trimZ s)).2))) (trimZ (sgnZ (trimZ s)).2).size).size = (trimZ (sgnZ (trimZ s)).2).size - digN (bytesL (trimZ (sgnZ (trimZ s)).2)) := by simp
    have hef := empty_facts ((trimZ (sgnZ (trimZ s)).2).extract (digN (bytesL (trimZ (sgnZ (trimZ s)).2))) (trimZ (sgnZ (trimZ s)).2).size)
    generalize satL ((bytesL (trimZ (sgnZ (trimZ s)).2)).take (digN (bytesL (trimZ (sgnZ (trimZ s)).2)))) = n at *
    generalize (trimZ (sgnZ (trimZ s)).2).extract (digN (bytesL (trimZ (sgnZ (trimZ s)).2))) (trimZ (sgnZ (trimZ s)).2).size = rest at *
    generalize digN (bytesL (trimZ (sgnZ (trimZ s)).2)) = p at *
    generalize (trimZ (sgnZ (trimZ s)).2).size = tn at *
    generalize trimZ (sgnZ (trimZ s)).2 = t2 at *
    generalize (sgnZ (trimZ s)).1 = sg at *
    generalize (sgnZ (trimZ s)).2 = t1 at *
    generalize trimZ s = t0 at *
    go_enter Tryz.func131, Tryz.ntmps131
    go_wp2_with (go_at_call 138; fail)
    refine (ht).mono ?_
    rintro e w1 ⟨rfl, rfl⟩
    go_wp2_with (go_at_call 127; fail)
    refine (hsg _).mono ?_
    rintro e w2 ⟨rfl, b2⟩
    go_wp2_with (go_at_call 138; fail)
    refine (ht2 _).mono ?_
    rintro e w' ⟨rfl, rfl⟩
    go_wp2_with (go_at_call 128; fail)
    refine (hnu _).mono ?_
    rintro e w3 ⟨rfl, b3⟩
    have B3 := b2.trans (b3.mono b2.size)
    clear ht hsg ht2 hnu b2 b3
    rcases hsc with rfl | rfl | rfl
    · by_cases hp0 : p = 0
      · subst hp0
        have HR : Hid (behindZ s = (0, false)) := by show _ = _; rw [HV.out, if_pos (.inr (.inl rfl))]
        clear HV hef hrs
        go_wp2
        go_ret2
        exact ⟨ret2_p HR.out, B3⟩
      · have hp1 : 0 < p := by omega
        have zp : decide (0 < p) = true := by simp [hp1]
        by_cases hlt : p < tn
        · have HR : Hid (behindZ s = (0, false)) := by show _ = _; rw [HV.out, if_pos (.inr (.inr hlt))]
          obtain ⟨r1, r2, r3⟩ := hef.2 (by omega)
          clear HV hef hrs
          go_wp2
          go_ret2
          exact ⟨ret2_p HR.out, B3⟩
        · have HR : Hid (behindZ s = (1 * n, true)) := by
            show _ = _
            rw [HV.out, if_neg]
            · rfl
            · rintro (h | h | h)
              · exact absurd h (by decide)
              · omega
              · omega
          have er := hef.1 (by omega)
          subst er
          clear HV hef hrs
          go_wp2_with (go_at_call 129; fail)
          refine (direction_p _).mono ?_
          rintro e w' ⟨rfl, rfl⟩
          go_wp2
          go_ret2
          exact ⟨ret2_p (HR.out.trans (by congr 1; omega)), B3⟩
    · by_cases hp0 : p = 0
      · subst hp0
        have HR : Hid (behindZ s = (0, false)) := by show _ = _; rw [HV.out, if_pos (.inr (.inl rfl))]
        clear HV hef hrs
        go_wp2
        go_ret2
        exact ⟨ret2_p HR.out, B3⟩
      · have hp1 : 0 < p := by omega
        have zp : decide (0 < p) = true := by simp [hp1]
        by_cases hlt : p < tn
        · have HR : Hid (behindZ s = (0, false)) := by show _ = _; rw [HV.out, if_pos (.inr (.inr hlt))]
          obtain ⟨r1, r2, r3⟩ := hef.2 (by omega)
          clear HV hef hrs
          go_wp2
          go_ret2
          exact ⟨ret2_p HR.out, B3⟩
        · have HR : Hid (behindZ s = (-1 * n, true)) := by
            show _ = _
            rw [HV.out, if_neg]
            · rfl
            · rintro (h | h | h)
              · exact absurd h (by decide)
              · omega
              · omega
          have er := hef.1 (by omega)
          subst er
          clear HV hef hrs
          go_wp2_with (go_at_call 129; fail)
          refine (direction_m _).mono ?_
          rintro e w' ⟨rfl, rfl⟩
          go_wp2
          go_ret2
          exact ⟨ret2_p (HR.out.trans (by congr 1; omega)), B3⟩
    · have HR : Hid (behindZ s = (0, false)) := by show _ = _; rw [HV.out, if_pos (.inl rfl)]
      clear HV hef hrs
      go_wp2
      go_ret2
      exact ⟨ret2_p HR.out, B3⟩
  · have e0 := empty_of (show s.size = 0 by omega)
    subst e0
    go_enter Tryz.func131, Tryz.ntmps131
    go_wp2
    go_ret2
    exact ⟨rfl, hB⟩

end Go.Proofs.YtdibldcnklgcjaaGreatDoor.N
namespace Go.Proofs.YtdibldcnklgcjaaGreatDoor.N
open Go.RowKit

def nB (s : ByteArray) : Bool := if h : 0 < s.size then (s[0]'h).toNat == 110 else false
set_option maxHeartbeats 400000 in
theorem cutPrefix_yes (s : ByteArray) (hn : nB s = true) (w : World) : Calls Tryz.prog 130 #[.string s, .string ⟨#[110]⟩] w fun e w' => e = .returned (.tuple #[.string (s.extract 1 s.size), .bool true]) ∧ Below w.heap.size w w' := by
  have hB : Below w.heap.size w w := Below.refl _ w
  have h0 : 0 < s.size := by
    unfold nB at hn
    split at hn
    · assumption
    · cases hn
  have e : (s[0]'h0) = 110 := by
    unfold nB at hn
    rw [dif_pos h0] at hn
    exact UInt8.toNat_inj.1 (by simpa using hn)
  have z1 : ((s.extract 0 1).toList == [110]) = true := by rw [first_list s h0 110, e]; rfl
  have h1 : (1 : Int) ≤ (s.size : Int) := by omega
  clear e hn
  go_enter Tryz.func130, Tryz.ntmps130
  go_wp2
  go_ret2
  exact ⟨rfl, hB⟩
set_option maxHeartbeats 400000 in
theorem cutPrefix_no (s : ByteArray) (hn : nB s = false) (w : World) : Calls Tryz.prog 130 #[.string s, .string ⟨#[110]⟩] w fun e w' => e = .returned (.tuple #[.string s, .bool false]) ∧ Below w.heap.size w w' := by
  have hB : Below w.heap.size w w := Below.refl _ w
  by_cases h0 : 0 < s.size
  · have z1 : ((s.extract 0 1).toList == [110]) = false := by
      rw [first_list s h0 110, Bool.eq_false_iff]
      intro h
      have e : (s[0]'h0) = 110 := by simpa using h
      unfold nB at hn
      rw [dif_pos h0, e] at hn
      exact absurd hn (by decide)
    have h1 : (1 : Int) ≤ (s.size : Int) := by omega
    clear hn
    go_enter Tryz.func130, Tryz.ntmps130
    go_wp2
    go_ret2
    exact ⟨rfl, hB⟩
  · have e0 := empty_of (show s.size = 0 by omega)
    subst e0
    clear hn
    go_enter Tryz.func130, Tryz.ntmps130
    go_wp2
    go_ret2
    exact ⟨rfl, hB⟩

/-- What a number, or A n B, says: of the sign's direction d, the number n, whether it has digits, and what is behind. -/
def cutN (d n : Int) (digits : Bool) (rest : ByteArray) : Int × Int × Bool :=
  if rest.size = 0 then (0, d * n, digits)
  else if nB rest = false then (0, 0, false)
  else if (behindZ (rest.extract 1 rest.size)).2 = false then (0, 0, false)
  else (d * (if digits then n else 1), (behindZ (rest.extract 1 rest.size)).1, true)
def cutT (s : ByteArray) : Int × Int × Bool :=
  cutN (dirB (sgnZ s).1) (satL ((bytesL (sgnZ s).2).take (digN (bytesL (sgnZ s).2)))) (decide (0 < digN (bytesL (sgnZ s).2))) ((sgnZ s).2.extract (digN (bytesL (sgnZ s).2)) (sgnZ s).2.size)
theorem ret3_p {v : Int × Int × Bool} {a b : Int} {c : Bool} (h : v = (a, b, c)) : Ending.returned (.tuple #[.int .i64 a, .int .i64 b, .bool c]) = .returned (.tuple #[.int .i64 v.1, .int .i64 v.2.1, .bool v.2.2]) := by rw [h]
theorem dir_any (sg : ByteArray) (h : sg = ⟨#[43]⟩ ∨ sg = ⟨#[45]⟩ ∨ sg = ⟨#[]⟩) (w : World) : Calls Tryz.prog 129 #[.string sg] w fun e w' => e = .returned (.int .i64 (dirB sg)) ∧ w = w' := by
  rcases h with rfl | rfl | rfl
  · exact direction_p w
  · exact direction_m w
  · exact direction_0 w
theorem dir_one (sg : ByteArray) : dirB sg = 1 ∨ dirB sg = -1 := by
  unfold dirB
  split
  · exact .inr rfl
  · exact .inl rfl

set_option maxHeartbeats 2000000 in
set_option maxRecDepth 100000 in
theorem cut_any (s : ByteArray) (hs : s.size ≤ 1000000000000) (w : World) :
    Calls Tryz.prog 116 #[.string s] w fun e w' => e = .returned (.tuple #[.int .i64 (cutT s).1, .int .i64 (cutT s).2.1, .bool (cutT s).2.2]) ∧ Below w.heap.size w w' := by
  have hsg := fun w => signAhead_any s w
  have hsz : (sgnZ s).2.size ≤ 1000000000000 := Nat.le_trans (sgn_size s) hs
  have hnu := fun w => numberAhead_any (sgnZ s).2 hsz w
  have hdr := fun w => dir_any (sgnZ s).1 (sgn_cases s) w
  have hd1 := dir_one (sgnZ s).1
  have hbd : 0 ≤ satL ((bytesL (sgnZ s).2).take (digN (bytesL (sgnZ s).2))) ∧ satL ((bytesL (sgnZ s).2).take (digN (bytesL (sgnZ s).2))) ≤ 1000000 := satL_bd _ (dig_take _)
  have hrs : ((sgnZ s).2.extract (digN (bytesL (sgnZ s).2)) (sgnZ s).2.size).size ≤ 1000000000000 := by
    have : ((sgnZ s).2.extract (digN (bytesL (sgnZ s).2)) (sgnZ s).2.size).size ≤ (sgnZ s).2.size := by simp
    omega
  unfold cutT
  generalize (sgnZ s).2.extract (digN (bytesL (sgnZ s).2)) (sgnZ s).2.size = rest at *
  generalize satL ((bytesL (sgnZ s).2).take (digN (bytesL (sgnZ s).2))) = n at *
  generalize decide (0 < digN (bytesL (sgnZ s).2)) = dg at *
  generalize (sgnZ s).2 = t1 at *
  generalize dirB (sgnZ s).1 = d at *
  generalize (sgnZ s).1 = sg at *
  have hef := empty_facts rest
  have hdn : -1000000 ≤ d * n ∧ d * n ≤ 1000000 := by
    rcases hd1 with rfl | rfl <;> omega
  have hdb : -1 ≤ d ∧ d ≤ 1 := by omega
  by_cases h0 : rest.size = 0
  · have er := hef.1 h0
    subst er
    have HR : Hid (cutN d n dg ⟨#[]⟩ = (0, d * n, dg)) := by show _ = _; unfold cutN; rw [if_pos h0]
    clear hef h0
    go_enter Tryz.func116, Tryz.ntmps116
    go_wp2_with (go_at_call 127; fail)
    refine (hsg _).mono ?_
    rintro e w2 ⟨rfl, b2⟩
    go_wp2_with (go_at_call 128; fail)
    refine (hnu _).mono ?_
    rintro e w3 ⟨rfl, b3⟩
    have B3 := b2.trans (b3.mono b2.size)
    go_wp2_with (go_at_call 129; fail)
    refine (hdr _).mono ?_
    rintro e w' ⟨rfl, rfl⟩
    go_wp2
    go_ret3
    exact ⟨ret3_p HR.out, B3⟩
  · obtain ⟨r1, r2, r3⟩ := hef.2 (by omega)
    clear hef
    cases hn : nB rest
    · have HR : Hid (cutN d n dg rest = (0, 0, false)) := by show _ = _; unfold cutN; rw [if_neg h0, if_pos hn]
      have hcp := fun w => cutPrefix_no rest hn w
      clear hn h0
      go_enter Tryz.func116, Tryz.ntmps116
      go_wp2_with (go_at_call 127; fail)
      refine (hsg _).mono ?_
      rintro e w2 ⟨rfl, b2⟩
      go_wp2_with (go_at_call 128; fail)
      refine (hnu _).mono ?_
      rintro e w3 ⟨rfl, b3⟩
      have B3 := b2.trans (b3.mono b2.size)
      go_wp2_with (go_at_call 130; fail)
      refine (hcp _).mono ?_
      rintro e w4 ⟨rfl, b4⟩
      have B4 := B3.trans (b4.mono B3.size)
      go_wp2
      go_ret3
      exact ⟨ret3_p HR.out, B4⟩
    · have hcp := fun w => cutPrefix_yes rest hn w
      have hts : (rest.extract 1 rest.size).size ≤ 1000000000000 := by
        have : (rest.extract 1 rest.size).size ≤ rest.size := by simp
        omega
      have hcb := fun w => cutBehind_any (rest.extract 1 rest.size) hts w
      have HC : Hid (cutN d n dg rest = if (behindZ (rest.extract 1 rest.size)).2 = false then (0, 0, false) else (d * (if dg then n else 1), (behindZ (rest.extract 1 rest.size)).1, true)) := by
        show _ = _
        unfold cutN
        rw [if_neg h0, if_neg (by rw [hn]; decide)]
      generalize behindZ (rest.extract 1 rest.size) = bz at *
      generalize rest.extract 1 rest.size = tail at *
      obtain ⟨bv, bo⟩ := bz
      clear hn h0
      cases bo
      · have HR : Hid (cutN d n dg rest = (0, 0, false)) := by show _ = _; rw [HC.out]; rfl
        simp only at hcb
        clear HC
        go_enter Tryz.func116, Tryz.ntmps116
        go_wp2_with (go_at_call 127; fail)
        refine (hsg _).mono ?_
        rintro e w2 ⟨rfl, b2⟩
        go_wp2_with (go_at_call 128; fail)
        refine (hnu _).mono ?_
        rintro e w3 ⟨rfl, b3⟩
        have B3 := b2.trans (b3.mono b2.size)
        go_wp2_with (go_at_call 130; fail)
        refine (hcp _).mono ?_
        rintro e w4 ⟨rfl, b4⟩
        have B4 := B3.trans (b4.mono B3.size)
        go_wp2_with (go_at_call 131; fail)
        refine (hcb _).mono ?_
        rintro e w5 ⟨rfl, b5⟩
        have B5 := B4.trans (b5.mono B4.size)
        go_wp2
        go_ret3
        exact ⟨ret3_p HR.out, B5⟩
      · simp only at hcb
        cases dg
        · have HR : Hid (cutN d n false rest = (d * 1, bv, true)) := by show _ = _; rw [HC.out]; rfl
          clear HC
          go_enter Tryz.func116, Tryz.ntmps116
          go_wp2_with (go_at_call 127; fail)
          refine (hsg _).mono ?_
          rintro e w2 ⟨rfl, b2⟩
          go_wp2_with (go_at_call 128; fail)
          refine (hnu _).mono ?_
          rintro e w3 ⟨rfl, b3⟩
          have B3 := b2.trans (b3.mono b2.size)
          go_wp2_with (go_at_call 130; fail)
          refine (hcp _).mono ?_
          rintro e w4 ⟨rfl, b4⟩
          have B4 := B3.trans (b4.mono B3.size)
          go_wp2_with (go_at_call 131; fail)
          refine (hcb _).mono ?_
          rintro e w5 ⟨rfl, b5⟩
          have B5 := B4.trans (b5.mono B4.size)
          go_wp2_with (go_at_call 129; fail)
          refine (hdr _).mono ?_
          rintro e w' ⟨rfl, rfl⟩
          go_wp2
          go_ret3
          exact ⟨ret3_p (HR.out.trans (by simp)), B5⟩
        · have HR : Hid (cutN d n true rest = (d * n, bv, true)) := by show _ = _; rw [HC.out]; rfl
          clear HC
          go_enter Tryz.func116, Tryz.ntmps116
          go_wp2_with (go_at_call 127; fail)
          refine (hsg _).mono ?_
          rintro e w2 ⟨rfl, b2⟩
          go_wp2_with (go_at_call 128; fail)
          refine (hnu _).mono ?_
          rintro e w3 ⟨rfl, b3⟩
          have B3 := b2.trans (b3.mono b2.size)
          go_wp2_with (go_at_call 130; fail)
          refine (hcp _).mono ?_
          rintro e w4 ⟨rfl, b4⟩
          have B4 := B3.trans (b4.mono B3.size)
          go_wp2_with (go_at_call 131; fail)
          refine (hcb _).mono ?_
          rintro e w5 ⟨rfl, b5⟩
          have B5 := B4.trans (b5.mono B4.size)
          go_wp2_with (go_at_call 129; fail)
          refine (hdr _).mono ?_
          rintro e w' ⟨rfl, rfl⟩
          go_wp2
          go_ret3
          exact ⟨ret3_p HR.out, B5⟩

end Go.Proofs.YtdibldcnklgcjaaGreatDoor.N
