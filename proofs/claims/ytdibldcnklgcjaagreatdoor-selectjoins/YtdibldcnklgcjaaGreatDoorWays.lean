/- The cutter's ways over comments, spaces and markup. -/
import Derived.Test.YtdibldcnklgcjaaGreatDoorTell
namespace Go.Proofs.YtdibldcnklgcjaaGreatDoor
open Go.RowKit
set_option maxRecDepth 100000

def codes (s : ByteArray) : List Int := s.data.toList.map fun x => (x.toNat : Int)

section
variable {w : World} {b : Nat} {v out : Value} {xs l : List Int} {ts : List Tok}

theorem codes_drop (s : ByteArray) (k : Nat) (h : k < s.size) : (codes s).drop k = ((s[k]'h).toNat : Int) :: (codes s).drop (k + 1) := by
  have hl : k < (codes s).length := by simpa [codes] using h
  rw [List.drop_eq_getElem_cons hl]
  congr 1
  simp [codes]
  rfl
theorem codes_end (s : ByteArray) (k : Nat) (h : ¬ k < s.size) : (codes s).drop k = [] := by
  apply List.drop_eq_nil_of_le
  have : s.data.size = s.size := rfl
  simp [codes]
  omega

set_option maxHeartbeats 1000000 in
set_option maxRecDepth 100000 in
theorem stands_any (s : ByteArray) (hasc : ∀ k (h : k < s.size), (s[k]'h).toNat < 128) (hsz : s.size ≤ 100) (h : At w b v out xs l) (fx : Fine xs) :
    Calls Tryz.prog 44 #[.pointer (some ⟨b, 0, none⟩), .string s] w fun e w' => e = .returned (.bool (standsB (codes s) l)) ∧ Below w.heap.size w w' := by
  go_enter Tryz.func44, Tryz.ntmps44
  go_wp2
  go_loopw [] (fun wr => ∃ k : Nat, k ≤ s.size ∧ wr.heap[w.heap.size]? = some (.stringIter s k) ∧ Below w.heap.size w wr ∧ standsB ((codes s).drop k) (l.drop k) = standsB (codes s) l) (fun wr => s.size - wr.iterPos w.heap.size)
  case atStart =>
    exact ⟨0, Nat.zero_le _, World.iter_heap w s 0, Below.iter (Below.refl _ w) (Nat.le_refl _) s 0, by simp⟩
  case round =>
    obtain ⟨k, hk, hit, hbw, heq⟩ := hrel
    have HQ : Hid (standsB ((codes s).drop k) (l.drop k) = standsB (codes s) l) := heq
    clear heq
    by_cases hp : k < s.size
    · have hnx : ∀ ty, (Instr.next (.pointer (some ⟨w.heap.size, 0, none⟩)) true ty).run Tryz.prog wr = _ := fun ty => Lib.run_next_ascii_at wr w.heap.size s k ty hit hp (hasc k hp)
      have hit3 := Lib.iterAt_heap wr w.heap.size s k (k + 1) hit
      have hbw3 := Lib.below_iterAt hbw (k := w.heap.size) (Nat.le_refl _) s (k + 1)
      have hm : ∀ W : World, W.heap[w.heap.size]? = some (.stringIter s (k + 1)) → s.size - W.iterPos w.heap.size < s.size - wr.iterPos w.heap.size := by
        intro W hW
        simp only [World.iterPos, hW, hit]
        omega
      have HC : Hid ((codes s).drop k = ((s[k]'hp).toNat : Int) :: (codes s).drop (k + 1)) := codes_drop s k hp
      have hc8 := hasc k hp
      generalize ((s[k]'hp).toNat) = c at *
      generalize wr.iterAt w.heap.size s (k + 1) = W at *
      have hat := at_below h hbw3
      have ha := ahead_w hat fx k k rfl (by omega)
      have HD : Hid (hd (l.drop k) 0 = hd l k) := by show hd (l.drop k) 0 = hd l k; rw [hd_drop]; rfl
      clear hbw hit
      by_cases hc : hd l k = (c : Int)
      · rw [hc] at ha
        go_wp2_with (go_at_call 46; fail)
        refine (ha).mono ?_
        rintro e w' ⟨rfl, m, rfl⟩
        go_wp2
        go_roundw
        case rel =>
          refine ⟨k + 1, by omega, hit3, hbw3.trans ((Kept.drewN w.heap.size W m).below (by have := hbw3.size; omega)), ?_⟩
          have := HQ.out
          rw [HC.out, standsB, HD.out, hc] at this
          simpa [List.drop_drop] using this
        case measure => exact hm _ hit3
      · have HF : Hid (standsB (codes s) l = false) := by
          have := HQ.out
          rw [HC.out, standsB, HD.out] at this
          show standsB (codes s) l = false
          rw [← this]
          simp [hc]
        have hcb : (hd l k == (c : Int)) = false := by simpa using hc
        generalize hd l k = q at *
        go_wp2_with (go_at_call 46; fail)
        refine (ha).mono ?_
        rintro e w' ⟨rfl, m, rfl⟩
        go_wp2
        go_ret
        exact ⟨ret_bool (by rw [HF.out]), hbw3.trans ((Kept.drewN w.heap.size W m).below (by have := hbw3.size; omega))⟩
    · have hnx : ∀ ty, (Instr.next (.pointer (some ⟨w.heap.size, 0, none⟩)) true ty).run Tryz.prog wr = _ := fun ty => Lib.run_next_end_at wr w.heap.size s k ty hit hp
      have HF : Hid (standsB (codes s) l = true) := by
        have := HQ.out
        rw [codes_end s k hp, standsB] at this
        exact this.symm
      go_wp2
      go_ret
      exact ⟨ret_bool (by rw [HF.out]), hbw⟩

theorem at_raw (h : At w b v out xs l) (fx : Fine xs) : ∃ p : Nat, w.cell? ⟨b, 1, none⟩ = some (.int .i64 p) ∧ w.frozen? ⟨b, 1, none⟩ = false ∧ p ≤ 1000000000 ∧ ∀ (k : Nat) (q : Int), q = p + k → k ≤ l.length → At (w.setCell ⟨b, 1, none⟩ (.int .i64 q)) b v out xs (l.drop k) := by
  have h' := h
  obtain ⟨p, hb, hr, ho, hp, rfl⟩ := h
  have hl := fx.1
  refine ⟨p, (cells3 hb).2.1, free3 hb 1, by omega, fun k q hq hk => ?_⟩
  subst hq
  have := at_set h' (q := p + k) (by simp at hk; omega)
  rw [List.drop_drop]
  exact this
end
end Go.Proofs.YtdibldcnklgcjaaGreatDoor
