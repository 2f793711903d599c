/- How many characters utf8.RuneCount counts: no more than there are bytes; it leaves all that was there. -/
import Derived.Test.YtdibldcnklgcjaaGreatDoorRows
import Derived.WalkKit
import Derived.WalkLawsBesides
import Derived.Lib.RuneCount
import Derived.Lib.OthersKept
import Derived.Laws.BytesArg
namespace Go.Proofs.YtdibldcnklgcjaaGreatDoor
open Go.RowKit
set_option maxRecDepth 100000

/-- The slice v holds the bytes s. -/
def BytesAt (w : World) (v : Value) (s : ByteArray) : Prop :=
  ∃ a cap, v = .slice a s.size cap ∧ s.size ≤ cap ∧ (0 < s.size → ∃ b off, a = some ⟨b, off, none⟩ ∧ ∀ j, j < s.size → w.cell? ⟨b, off + j, none⟩ = some (.int .u8 (s.get! j).toNat))

theorem strOf (s : ByteArray) : strOfNums (s.data.toList.map fun b => (b.toNat : Int)) = s := by
  cases s with
  | mk d =>
    have e : ((fun n : Int => UInt8.ofNat n.toNat) ∘ fun b : UInt8 => (b.toNat : Int)) = id := by
      funext b
      simp
    simp [strOfNums, e]

theorem getD_bytes (s : ByteArray) (j : Nat) (h : j < s.size) : (s.data.toList.map fun b => (b.toNat : Int)).getD j 0 = ((s.get! j).toNat : Int) := by
  cases s with
  | mk d =>
    have h' : j < d.size := h
    simp [List.getD, ByteArray.get!, getElem!_pos, h']

theorem conv {w : World} {b off cap : Nat} {s : ByteArray} (hc : ∀ j, j < s.size → w.cell? ⟨b, off + j, none⟩ = some (.int .u8 (s.get! j).toNat)) :
    (convert 50 9 (.slice (some ⟨b, off, none⟩) s.size cap)).run Tryz.prog w = .ok (.string s) w := by
  have := run_convert_bytes_arg (P := Tryz.prog) w 50 5 Tryz.underlying50 Tryz.underlying5 b off s.size cap (s.data.toList.map fun b => (b.toNat : Int)) (by rw [List.length_map]; rfl) (fun i hi => by rw [getD_bytes s i hi]; exact hc i hi) 9 Tryz.underlying9
  rw [strOf] at this
  exact this

theorem conv_empty {w : World} {a : Option Addr} {cap : Nat} :
    (convert 50 9 (.slice a 0 cap)).run Tryz.prog w = .ok (.string ByteArray.empty) w := by
  rw [run_convert_bytes_string w 50 9 5 _ 0 cap Tryz.underlying50 Tryz.underlying5 Tryz.underlying9]
  cases a with
  | none => simp [Conv.bytesToString]
  | some a =>
    have := run_bytesToString (P := Tryz.prog) w a 0 cap [] (by simp [loadCells, loadCellsFrom])
    simpa using this

theorem Below.iter {B : Nat} {a w : World} (h : Below B a w) (hB : B ≤ w.heap.size) (s : ByteArray) (pos : Nat) : Below B a (w.iter s pos) := h.alloc hB _

/-- utf8.RuneCountInString: not more than there are bytes. -/
theorem countIn (s : ByteArray) (w : World) (hs : s.size ≤ 1000000000000) :
    Calls Tryz.prog 63 #[.string s] w fun e w' => (∃ n : Nat, e = .returned (.int .i64 n) ∧ n ≤ s.size) ∧ Below w.heap.size w w' := by
  go_enter Tryz.func63, Tryz.ntmps63
  go_wp2
  go_loopw [2] (fun n wr => ∃ pos acc : Nat, wr.heap[w.heap.size]? = some (.stringIter s pos) ∧ Below w.heap.size w wr ∧ n = .int .i64 acc ∧ acc ≤ pos ∧ acc ≤ s.size) (fun _ wr => s.size - wr.iterPos w.heap.size)
  case atStart => exact ⟨0, 0, World.iter_heap w s 0, Below.iter (Below.refl _ w) (Nat.le_refl _) s 0, rfl, Nat.le_refl _, Nat.zero_le _⟩
  case round =>
    obtain ⟨pos, acc, hit, hb, rfl, hap, has⟩ := hrel
    by_cases hp : pos < s.size
    · have hnx := fun ty => Lib.run_next_any_at (P := Tryz.prog) wr w.heap.size s pos ty hit hp
      have hwd := Lib.decode_width_pos s pos hp
      have hit2 := Lib.iterAt_heap wr w.heap.size s pos (pos + (Utf8.decode s pos).2) hit
      have hb2 := Lib.below_iterAt hb (k := w.heap.size) (Nat.le_refl _) s (pos + (Utf8.decode s pos).2)
      have hm : s.size - (wr.iterAt w.heap.size s (pos + (Utf8.decode s pos).2)).iterPos w.heap.size < s.size - wr.iterPos w.heap.size := by
        simp only [World.iterPos, hit2, hit]
        omega
      generalize (Utf8.decode s pos).2 = d at *
      generalize wr.iterAt w.heap.size s (pos + d) = W at *
      clear hb hit
      go_wp2
      go_roundw
      case rel => exact ⟨pos + d, acc + 1, hit2, hb2, by go_num, by omega, by omega⟩
      case measure => exact hm
    · have hnx := fun ty => Lib.run_next_end_at (P := Tryz.prog) wr w.heap.size s pos ty hit hp
      go_wp2
      go_ret
      exact ⟨⟨acc, rfl, has⟩, hb⟩

theorem conv_tail {w : World} {b off cap k : Nat} {s : ByteArray} (hk : k ≤ s.size) (hc : ∀ j, j < s.size → w.cell? ⟨b, off + j, none⟩ = some (.int .u8 (s.get! j).toNat)) :
    ∃ t : ByteArray, t.size = s.size - k ∧ (convert 50 9 (.slice (some ⟨b, off + k, none⟩) (s.size - k) (cap - k))).run Tryz.prog w = .ok (.string t) w := by
  refine ⟨s.extract k s.size, by simp, ?_⟩
  have := conv (w := w) (b := b) (off := off + k) (cap := cap - k) (s := s.extract k s.size) (fun j hj => by
    have hj' : j < s.size - k := by simpa using hj
    have := hc (k + j) (by omega)
    rw [show off + k + j = off + (k + j) by omega, this]
    have e : (s.extract k s.size).get! j = s.get! (k + j) := by
      cases s with
      | mk d =>
        have h1 : k + j < d.size := by have : (ByteArray.mk d).size = d.size := rfl; omega
        have h2 : j < (d.extract k d.size).size := by simp; omega
        have e1 : ((ByteArray.mk d).extract k (ByteArray.mk d).size).data = d.extract k d.size := by
          rw [ByteArray.data_extract]; rfl
        unfold ByteArray.get!
        simp only [e1, getElem!_pos, h1, h2]
        simp
    rw [e])
  simpa using this

set_option maxHeartbeats 4000000 in
set_option maxRecDepth 1000000 in
theorem count_any (v : Value) (s : ByteArray) (w : World) (hs : s.size ≤ 1000000000000) (hv : BytesAt w v s) :
    Calls Tryz.prog 29 #[v] w fun e w' => (∃ n : Nat, e = .returned (.int .i64 n) ∧ n ≤ s.size) ∧ Below w.heap.size w w' := by
  obtain ⟨a, cap, rfl, hcap, hcc⟩ := hv
  go_enter Tryz.func29, Tryz.ntmps29
  go_wp2
  go_loop [4] (fun n => ∃ k : Nat, k ≤ s.size ∧ n = .int .i64 k) (fun n => s.size - (intOf n).toNat)
  case atStart => exact ⟨0, Nat.zero_le _, rfl⟩
  case round =>
    obtain ⟨k, hk, rfl⟩ := hrel
    by_cases hlt : k < s.size
    · obtain ⟨b, off, rfl, hc⟩ := hcc (by omega)
      have hck := hc k hlt
      by_cases ha : (s.get! k).toNat < 128
      · go_wp2
        go_round
        case rel => exact ⟨k + 1, by omega, by go_num⟩
        case measure => simp [intOf]; omega
      · have ha' : 128 ≤ (s.get! k).toNat := by omega
        obtain ⟨t, ht, hcv⟩ := conv_tail (cap := cap) hk hc
        go_wp2_with (go_at_call 63; refine (countIn t _ (by omega)).mono ?_; rintro e w' ⟨⟨n, rfl, hn⟩, hbn⟩)
        go_ret
        exact ⟨⟨k + n, by go_num, by omega⟩, hbn⟩
    · go_wp2
      go_ret
      exact ⟨⟨k, rfl, hk⟩, Below.refl _ _⟩

end Go.Proofs.YtdibldcnklgcjaaGreatDoor
