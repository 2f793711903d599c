/- How many characters utf8.RuneCount counts: no more than there are bytes; it leaves all that was there. -/
import Derived.Test.YtihdiaklhkecmabRows
import Derived.WalkKit
import Derived.WalkLawsBesides
import Derived.Lib.RuneCount
import Derived.Lib.OthersKept
import Derived.Laws.BytesArg
namespace Go.Proofs.Ytihdiaklhkecmab
open Go.RowKit

/-- The slice v holds the bytes s. -/
def BytesAt (w : World) (v : Value) (s : ByteArray) : Prop :=
  ∃ a cap, v = .slice a s.size cap ∧ s.size ≤ cap ∧ (0 < s.size → ∃ b off, a = some ⟨b, off, none⟩ ∧ ∀ j, j < s.size → w.cell? ⟨b, off + j, none⟩ = some (.int .u8 (s.get! j).toNat))

theorem strOf (s : ByteArray) : strOfNums (s.data.toList.map fun b => (b.toNat : Int)) = s := by
  cases s with
  | mk d =>
    have e : ((fun n : Int => UInt8.ofNat n.toNat) ∘ fun b : UInt8 => (b.toNat : Int)) = id := by
      funext b
      simp
    simp [strOfNums, e]

theorem getD_bytes (s : ByteArray) (j : Nat) (h : j < s.size) : (s.data.toList.map fun b => (b.toNat : Int)).getD j 0 = ((s.get! j).toNat : Int) := by
  cases s with
  | mk d =>
    have h' : j < d.size := h
    simp [List.getD, ByteArray.get!, getElem!_pos, h']

theorem conv {w : World} {b off cap : Nat} {s : ByteArray} (hc : ∀ j, j < s.size → w.cell? ⟨b, off + j, none⟩ = some (.int .u8 (s.get! j).toNat)) :
    (convert 51 9 (.slice (some ⟨b, off, none⟩) s.size cap)).run Try.prog w = .ok (.string s) w := by
  have := run_convert_bytes_arg (P := Try.prog) w 51 5 Try.underlying51 Try.underlying5 b off s.size cap (s.data.toList.map fun b => (b.toNat : Int)) (by rw [List.length_map]; rfl) (fun i hi => by rw [getD_bytes s i hi]; exact hc i hi) 9 Try.underlying9
  rw [strOf] at this
  exact this

theorem conv_empty {w : World} {a : Option Addr} {cap : Nat} :
    (convert 51 9 (.slice a 0 cap)).run Try.prog w = .ok (.string ByteArray.empty) w := by
  rw [run_convert_bytes_string w 51 9 5 _ 0 cap Try.underlying51 Try.underlying5 Try.underlying9]
  cases a with
  | none => simp [Conv.bytesToString]
  | some a =>
    have := run_bytesToString (P := Try.prog) w a 0 cap [] (by simp [loadCells, loadCellsFrom])
    simpa using this

theorem Below.iter {B : Nat} {a w : World} (h : Below B a w) (hB : B ≤ w.heap.size) (s : ByteArray) (pos : Nat) : Below B a (w.iter s pos) := h.alloc hB _

theorem conv_tail {w : World} {b off cap k : Nat} {s : ByteArray} (hk : k ≤ s.size) (hc : ∀ j, j < s.size → w.cell? ⟨b, off + j, none⟩ = some (.int .u8 (s.get! j).toNat)) :
    ∃ t : ByteArray, t.size = s.size - k ∧ (convert 51 9 (.slice (some ⟨b, off + k, none⟩) (s.size - k) (cap - k))).run Try.prog w = .ok (.string t) w := by
  refine ⟨s.extract k s.size, by simp, ?_⟩
  have := conv (w := w) (b := b) (off := off + k) (cap := cap - k) (s := s.extract k s.size) (fun j hj => by
    have hj' : j < s.size - k := by simpa using hj
    have := hc (k + j) (by omega)
    rw [show off + k + j = off + (k + j) by omega, this]
    have e : (s.extract k s.size).get! j = s.get! (k + j) := by
      cases s with
      | mk d =>
        have h1 : k + j < d.size := by have : (ByteArray.mk d).size = d.size := rfl; omega
        have h2 : j < (d.extract k d.size).size := by simp; omega
        have e1 : ((ByteArray.mk d).extract k (ByteArray.mk d).size).data = d.extract k d.size := by
          rw [ByteArray.data_extract]; rfl
        unfold ByteArray.get!
        simp only [e1, getElem!_pos, h1, h2]
        simp
    rw [e])
  simpa using this

end Go.Proofs.Ytihdiaklhkecmab
