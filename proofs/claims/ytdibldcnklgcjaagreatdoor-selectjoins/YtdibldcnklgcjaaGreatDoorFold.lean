/- What text.Fold, gouacheref01.Fold and gouacheref01.Name answer. -/
import Derived.Test.YtdibldcnklgcjaaGreatDoorKinds
import Derived.Laws.IdiomStrings
namespace Go.Proofs.YtdibldcnklgcjaaGreatDoor
open Go.RowKit
set_option maxRecDepth 100000

def bytesOk (s : ByteArray) : Nat → Nat → Bool
  | 0, _ => true
  | f + 1, pos => if pos < s.size then fitZ (pos == 0) (s.get! pos).toNat && bytesOk s f (pos + 1) else true

theorem fit_high (first : Bool) (c : Int) (h : 128 ≤ c) : fitZ first c = false := by
  have h1 : smallZ c = false := by simp only [smallZ, Bool.and_eq_false_iff, decide_eq_false_iff_not]; omega
  have h2 : digitZ c = false := by simp only [digitZ, Bool.and_eq_false_iff, decide_eq_false_iff_not]; omega
  have h3 : (c == 45) = false := beq_eq_false_iff_ne.2 (by omega)
  have h4 : (c == 95) = false := beq_eq_false_iff_ne.2 (by omega)
  cases first <;> simp [fitZ, h1, h2, h3, h4]

theorem names_bytes (s : ByteArray) : ∀ fuel pos, namesZ (pos == 0) (charsFrom s fuel pos) = bytesOk s fuel pos
  | 0, _ => rfl
  | f + 1, pos => by
    by_cases hp : pos < s.size
    · have hg : s.get! pos = s[pos]'hp := get_at s pos hp
      simp only [charsFrom, bytesOk, if_pos hp, namesZ, hg]
      by_cases ha : (s[pos]'hp).toNat < 128
      · rw [decode_ascii s pos hp ha]
        have := names_bytes s f (pos + 1)
        rw [show (pos + 1 == 0) = false by simp] at this
        rw [this]
      · rw [fit_high _ _ (by have := (decode_high s pos hp (by omega)).1; omega), fit_high _ _ (by omega)]
        simp
    · simp [charsFrom, bytesOk, hp, namesZ]

theorem bytesOk_end (s : ByteArray) (f pos : Nat) (h : ¬ pos < s.size) : bytesOk s f pos = true := by
  cases f <;> simp [bytesOk, h]

theorem fit_yes0 {c : Int} (h1 : 97 ≤ c) (h2 : c ≤ 122) (first : Bool) : fitZ first c = true := by
  cases first <;> simp [fitZ, smallZ, h1, h2]
theorem fit_no0 {c : Int} (h : ¬ (97 ≤ c ∧ c ≤ 122)) : fitZ true c = false := by
  simp only [fitZ, smallZ, if_true, Bool.and_eq_false_iff, decide_eq_false_iff_not]; omega
theorem fit_rest {c : Int} : fitZ false c = decide ((97 ≤ c ∧ c ≤ 122) ∨ (48 ≤ c ∧ c ≤ 57) ∨ c = 45 ∨ c = 95) := by
  rw [Bool.eq_iff_iff]
  simp [fitZ, smallZ, digitZ]
  omega

/-! ### Fold -/
def foldN (c : Nat) : Nat := if 65 ≤ c ∧ c ≤ 90 then c + 32 else c
def foldB (b : UInt8) : UInt8 := UInt8.ofNat (foldN b.toNat)
def foldS (s : ByteArray) : ByteArray := ⟨s.data.map foldB⟩

theorem foldB_nat (b : UInt8) : (foldB b).toNat = foldN b.toNat := by
  have := b.toNat_lt
  unfold foldB foldN
  split <;> simp <;> omega
theorem foldS_size (s : ByteArray) : (foldS s).size = s.size := by
  cases s with
  | mk d => exact Array.size_map
theorem foldS_get (s : ByteArray) (j : Nat) (h : j < s.size) : (foldS s).get! j = foldB (s.get! j) := by
  cases s with
  | mk d =>
    have h' : j < d.size := h
    simp [foldS, ByteArray.get!, getElem!_pos, h']
theorem foldS_twice (s : ByteArray) : foldS (foldS s) = foldS s := by
  cases s with
  | mk d =>
    simp only [foldS, Array.map_map]
    congr 1
    apply Array.map_congr_left
    intro b _
    apply UInt8.toNat.inj
    simp only [Function.comp, foldB_nat]
    unfold foldN
    have := b.toNat_lt
    repeat' split
    all_goals omega

/-- What the conversion of a string to bytes lays. -/
theorem bytesOf (s : ByteArray) (w : World) : ∃ g cap W, (convert 9 50 (.string s)).run Tryz.prog w = .ok (.slice (some ⟨g, 0, none⟩) s.size cap) W ∧ s.size ≤ cap ∧ w.heap.size ≤ g ∧
    (∀ j, j < s.size → W.cell? ⟨g, j, none⟩ = some (.int .u8 (s.get! j).toNat)) ∧ (∀ j, j < s.size → W.frozen? ⟨g, j, none⟩ = false) ∧ Below w.heap.size w W := by
  have hcv := run_bytes_of_string (P := Tryz.prog) w 9 50 5 s Tryz.underlying9 Tryz.underlying50 Tryz.underlying5
  have hge := grownCap_ge w s.size 0 5
  have hsz : (bytesRow s (grownCap w s.size 0 5)).size = grownCap w s.size 0 5 := by
    have : s.data.size = s.size := rfl
    simp [bytesRow]
    omega
  generalize grownCap w s.size 0 5 = cap at *
  have hnew : (w.drew.alloc (.cells (bytesRow s cap) 5 ((bytesRow s cap).size, (bytesRow s cap).size + 1))).heap[w.heap.size]? = some (.cells (bytesRow s cap) 5 ((bytesRow s cap).size, (bytesRow s cap).size + 1)) := heap_alloc_new w.drew _
  refine ⟨w.heap.size, cap, _, hcv, hge, Nat.le_refl _, fun j hj => ?_, fun j hj => ?_, ((Below.refl _ w).drew).alloc (Nat.le_refl _) _⟩
  · have hd : j < s.data.size := hj
    have hg : (bytesRow s cap)[j]? = some (.int .u8 (s.get! j).toNat) := by
      have hgs : s.get! j = s.data[j] := by
        cases s with
        | mk d => exact getElem!_pos d j hd
      rw [hgs]
      unfold bytesRow
      rw [Array.getElem?_append_left (by simpa using hd), Array.getElem?_map, Array.getElem?_eq_getElem hd]
      rfl
    simp only [World.cell?, hnew]
    exact hg
  · simp only [World.frozen?, hnew]
    simp
    omega

def FoldAt (s : ByteArray) (g k : Nat) (w : World) : Prop := ∀ j, j < s.size → w.cell? ⟨g, j, none⟩ = some (.int .u8 (if j < k then foldN (s.get! j).toNat else (s.get! j).toNat : Nat))

theorem fold_step {s : ByteArray} {g k : Nat} {w : World} (h : FoldAt s g k w) (hk : k < s.size) {x : Int} (hx : x = foldN (s.get! k).toNat) : FoldAt s g (k + 1) (w.setCell ⟨g, k, none⟩ (.int .u8 x)) := by
  intro j hj
  by_cases e : j = k
  · subst e
    rw [World.cell?_setCell_same _ _ _ (h j hj), if_pos (by omega), hx]
  · rw [World.cell?_setCell_other _ _ _ _ (by simp; try omega), h j hj]
    by_cases h1 : j < k
    · rw [if_pos h1, if_pos (by omega)]
    · rw [if_neg h1, if_neg (by omega)]

theorem fold_keep {s : ByteArray} {g k : Nat} {w : World} (h : FoldAt s g k w) (hx : foldN (s.get! k).toNat = (s.get! k).toNat) : FoldAt s g (k + 1) w := by
  intro j hj
  rw [h j hj]
  by_cases e : j = k
  · subst e
    rw [if_neg (by omega), if_pos (by omega), hx]
  · by_cases h1 : j < k
    · rw [if_pos h1, if_pos (by omega)]
    · rw [if_neg h1, if_neg (by omega)]

theorem fold_conv {s : ByteArray} {g cap : Nat} {w : World} (h : FoldAt s g s.size w) : (convert 50 9 (.slice (some ⟨g, 0, none⟩) s.size cap)).run Tryz.prog w = .ok (.string (foldS s)) w := by
  have := conv (w := w) (b := g) (off := 0) (cap := cap) (s := foldS s) (fun j hj => by
    rw [foldS_size] at hj
    rw [Nat.zero_add, h j hj, if_pos hj, foldS_get s j hj, foldB_nat])
  rw [foldS_size] at this
  exact this

set_option maxHeartbeats 4000000 in
set_option maxRecDepth 1000000 in
theorem fold_any (s : ByteArray) (w : World) (hs : s.size ≤ 1000000000000) :
    Calls Tryz.prog 59 #[.string s] w fun e w' => e = .returned (.string (foldS s)) ∧ Below w.heap.size w w' := by
  obtain ⟨g, cap, W, hcv, hcap, hg, hcell, hfr, hb⟩ := bytesOf s w
  go_enter Tryz.func59, Tryz.ntmps59
  go_wp2
  clear hcv
  go_loopw [10] (fun i wr => ∃ k : Nat, k ≤ s.size ∧ i = .int .i64 k ∧ FoldAt s g k wr ∧ (∀ j, j < s.size → wr.frozen? ⟨g, j, none⟩ = false) ∧ Below w.heap.size w wr) (fun i _ => s.size - (intOf i).toNat)
  case atStart => exact ⟨0, Nat.zero_le _, rfl, fun j hj => by simpa using hcell j hj, hfr, hb⟩
  case round =>
    clear hcell hfr hb
    obtain ⟨k, hk, rfl, hcell, hfr, hb⟩ := hrel
    by_cases hlt : k < s.size
    · obtain ⟨c, hc⟩ : ∃ c : Nat, (s.get! k).toNat = c := ⟨_, rfl⟩
      have ck : wr.cell? ⟨g, k, none⟩ = some (.int .u8 c) := by
        have := hcell k hlt
        rw [if_neg (Nat.lt_irrefl k), hc] at this
        exact this
      have fk := hfr k hlt
      have h256 : c < 256 := by rw [← hc]; exact (s.get! k).toNat_lt
      have HF : Hid (∀ j, j < s.size → wr.frozen? ⟨g, j, none⟩ = false) := hfr
      clear hfr
      by_cases h : 65 ≤ c ∧ c ≤ 90
      · have HX : Hid (((c : Int) + 32) = foldN (s.get! k).toNat) := by
          show _ = _
          rw [hc, foldN, if_pos h]
          omega
        obtain ⟨h1, h2⟩ := h
        clear hc
        go_wp2
        go_roundw
        case rel => exact ⟨k + 1, by omega, by go_num, fold_step hcell hlt (by rw [← HX.out]; try omega), fun j hj => by rw [World.frozen?_setCell]; exact HF.out j hj, hb.setCell hg _⟩
        case measure => simp [intOf]; omega
      · have HX : Hid (foldN (s.get! k).toNat = (s.get! k).toNat) := by
          show _ = _
          rw [hc, foldN, if_neg h]
        clear hc
        rcases (show c < 65 ∨ 90 < c by omega) with h1 | h1
        all_goals
          clear h
          go_wp2
          go_roundw
          case rel => exact ⟨k + 1, by omega, by go_num, fold_keep hcell HX.out, HF.out, hb⟩
          case measure => simp [intOf]; omega
    · have hks : k = s.size := by omega
      rw [hks] at hcell
      have hcv2 := fold_conv (cap := cap) hcell
      clear hks
      go_wp2
      go_ret
      exact ⟨rfl, hb⟩

end Go.Proofs.YtdibldcnklgcjaaGreatDoor
