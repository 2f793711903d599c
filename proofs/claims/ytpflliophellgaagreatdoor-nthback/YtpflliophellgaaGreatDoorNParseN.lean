/- nth.Parse, whatever the values. -/
import Derived.Test.YtpflliophellgaaGreatDoorNFoldN
import Derived.Test.YtpflliophellgaaGreatDoorNCutN
import Derived.Test.YtpflliophellgaaGreatDoorNWrittenWalk
namespace Go.Proofs.YtpflliophellgaaGreatDoor.N
open Go.RowKit

def evenS : ByteArray := ⟨#[101, 118, 101, 110]⟩
def oddS : ByteArray := ⟨#[111, 100, 100]⟩
/-- What a trimmed text in small letters says. -/
def readT (s : ByteArray) : Int × Int × Bool := if s = evenS then (2, 0, true) else if s = oddS then (2, 1, true) else cutT s
def parseT (g : Option (List Int)) : Int × Int × Bool := match g with
  | none => (0, 0, false)
  | some p => readT (foldS (strOfNums (leftL (rightL p))))
theorem str_eqs (a c : ByteArray) (l : List UInt8) (hc : c.toList = l) : (a = c → (a == c) = true ∧ (a.toList == l) = true) ∧ (a ≠ c → (a == c) = false ∧ (a.toList == l) = false) := by
  refine ⟨fun e => ?_, fun e => ?_⟩
  · subst e
    exact ⟨by rw [beq_toListBytes]; simp, by rw [hc]; simp⟩
  · have h : (a.toList == c.toList) = false := by
      rw [Bool.eq_false_iff]
      intro h
      rw [beq_iff_eq, ByteArray.toList_eq, ByteArray.toList_eq] at h
      exact e (ByteArray.ext (Array.toList_inj.1 h))
    exact ⟨by rw [beq_toListBytes]; exact h, by rw [← hc]; exact h⟩
theorem gathered_byte : ∀ (ts : List Tk) (p : List Int), gathered ts = some p → (∀ n ∈ p, 0 ≤ n ∧ n < 256)
  | [], p, h => by
    cases h
    intro n hn
    cases hn
  | t :: r, p, h => by
    rw [gathered] at h
    cases ht : toldT t with
    | none => rw [ht] at h; cases h
    | some a =>
      cases hr : gathered r with
      | none => rw [ht, hr] at h; cases h
      | some c =>
        rw [ht, hr] at h
        cases h
        have hc := gathered_byte r c hr
        have ha : ∀ n ∈ a, 0 ≤ n ∧ n < 256 := by
          unfold toldT toldZ at ht
          repeat' split at ht
          all_goals first | (cases ht; done) | (cases ht; exact bytesL_byte _) | (cases ht; intro n hn; simp at hn; omega) | (cases ht; exact fun n hn => (List.mem_append.1 hn).elim (bytesL_byte _ n) (bytesL_byte _ n))
        intro n hn
        rcases List.mem_append.1 hn with h | h
        · exact ha n h
        · exact hc n h
theorem gathered_len : ∀ (ts : List Tk) (p : List Int), gathered ts = some p → (∀ t ∈ ts, t.tx.size + t.un.size ≤ 200) → p.length ≤ 201 * ts.length
  | [], p, h, _ => by
    cases h
    simp
  | t :: r, p, h, hs => by
    rw [gathered] at h
    cases ht : toldT t with
    | none => rw [ht] at h; cases h
    | some a =>
      cases hr : gathered r with
      | none => rw [ht, hr] at h; cases h
      | some c =>
        rw [ht, hr] at h
        cases h
        have h1 := gathered_len r c hr (fun x hx => hs x (by simp [hx]))
        have h2 := told_len ht (hs t (by simp))
        rw [List.length_append, List.length_cons]
        omega

set_option maxHeartbeats 1000000 in
set_option maxRecDepth 100000 in
theorem parse_any (W : World) (v : Value) (ts : List Tk) (hv : ValsAt W v ts) (hn : ts.length ≤ 200) (hsz : ∀ t ∈ ts, t.tx.size + t.un.size ≤ 200) :
    Calls Tryz.prog 5 #[v] W fun e w' => e = .returned (.tuple #[.int .i64 (parseT (gathered ts)).1, .int .i64 (parseT (gathered ts)).2.1, .bool (parseT (gathered ts)).2.2]) ∧ Below W.heap.size W w' := by
  have hw := written_any W v ts hv hn hsz
  have hb := gathered_byte ts
  have hl := fun p h => gathered_len ts p h hsz
  obtain ⟨a, cap, rfl, _⟩ := hv
  cases hg : gathered ts with
  | none =>
    rw [hg] at hw
    have e1 : wrt none = (⟨#[]⟩, false) := rfl
    have e2 : parseT none = (0, 0, false) := rfl
    rw [e1] at hw
    rw [e2]
    simp only at hw ⊢
    clear e1 e2 hb hl hg hsz
    go_enter Tryz.func5, Tryz.ntmps5
    go_wp2_with (go_at_call 12; fail)
    refine (hw).mono ?_
    rintro e w1 ⟨rfl, b1⟩
    go_wp2
    go_ret3
    exact ⟨rfl, b1⟩
  | some p =>
    rw [hg] at hw
    have hpb := hb p hg
    have hpl := hl p hg
    have hlen : p.length ≤ 1000000 := by omega
    have ht := fun w => trim_any p hpb hlen w
    have hts : (strOfNums (leftL (rightL p))).size ≤ 1000000 := by
      rw [strOf_size]
      exact Nat.le_trans (leftL_len _) (Nat.le_trans (rightL_len _) hlen)
    have hf := fun w => fold_any (strOfNums (leftL (rightL p))) w (by omega)
    have hfs : (foldS (strOfNums (leftL (rightL p)))).size ≤ 1000000 := by rw [foldS_size]; exact hts
    have hcut := fun w => cut_any (foldS (strOfNums (leftL (rightL p)))) hfs w
    have HR : Hid (parseT (some p) = readT (foldS (strOfNums (leftL (rightL p))))) := rfl
    have e1 : wrt (some p) = (strOfNums p, true) := rfl
    rw [e1] at hw
    simp only at hw
    generalize strOfNums p = s0 at *
    generalize strOfNums (leftL (rightL p)) = s1 at *
    generalize foldS s1 = s2 at *
    generalize parseT (some p) = pv at *
    clear e1 hb hl hg hsz hpb hpl hlen hts
    by_cases he : s2 = evenS
    · have HV : Hid (pv = (2, 0, true)) := by show _ = _; rw [HR.out, readT, if_pos he]
      unfold evenS at he
      subst he
      clear HR hcut
      go_enter Tryz.func5, Tryz.ntmps5
      go_wp2_with (go_at_call 12; fail)
      refine (hw).mono ?_
      rintro e w1 ⟨rfl, b1⟩
      go_wp2_with (go_at_call 14; fail)
      refine (ht _).mono ?_
      rintro e w2 ⟨rfl, b2⟩
      have B2 := b1.trans (b2.mono b1.size)
      go_wp2_with (go_at_call 13; fail)
      refine (hf _).mono ?_
      rintro e w3 ⟨rfl, b3⟩
      have B3 := B2.trans (b3.mono B2.size)
      go_wp2
      go_ret3
      exact ⟨ret3_p HV.out, B3⟩
    obtain ⟨y1, y2⟩ := (str_eqs s2 ⟨#[101, 118, 101, 110]⟩ [101, 118, 101, 110] (by rw [ByteArray.toList_eq])).2 he
    by_cases ho : s2 = oddS
    · have HV : Hid (pv = (2, 1, true)) := by show _ = _; rw [HR.out, readT, if_neg he, if_pos ho]
      unfold oddS at ho
      subst ho
      clear HR hcut y1 y2 he
      go_enter Tryz.func5, Tryz.ntmps5
      go_wp2_with (go_at_call 12; fail)
      refine (hw).mono ?_
      rintro e w1 ⟨rfl, b1⟩
      go_wp2_with (go_at_call 14; fail)
      refine (ht _).mono ?_
      rintro e w2 ⟨rfl, b2⟩
      have B2 := b1.trans (b2.mono b1.size)
      go_wp2_with (go_at_call 13; fail)
      refine (hf _).mono ?_
      rintro e w3 ⟨rfl, b3⟩
      have B3 := B2.trans (b3.mono B2.size)
      go_wp2
      go_ret3
      exact ⟨ret3_p HV.out, B3⟩
    obtain ⟨z1, z2⟩ := (str_eqs s2 ⟨#[111, 100, 100]⟩ [111, 100, 100] (by rw [ByteArray.toList_eq])).2 ho
    have HV : Hid (pv = cutT s2) := by show _ = _; rw [HR.out, readT, if_neg he, if_neg ho]
    generalize cutT s2 = cv at *
    clear HR he ho
    go_enter Tryz.func5, Tryz.ntmps5
    go_wp2_with (go_at_call 12; fail)
    refine (hw).mono ?_
    rintro e w1 ⟨rfl, b1⟩
    go_wp2_with (go_at_call 14; fail)
    refine (ht _).mono ?_
    rintro e w2 ⟨rfl, b2⟩
    have B2 := b1.trans (b2.mono b1.size)
    go_wp2_with (go_at_call 13; fail)
    refine (hf _).mono ?_
    rintro e w3 ⟨rfl, b3⟩
    have B3 := B2.trans (b3.mono B2.size)
    go_wp2_with (go_at_call 15; fail)
    refine (hcut _).mono ?_
    rintro e w4 ⟨rfl, b4⟩
    have B4 := B3.trans (b4.mono B3.size)
    go_wp2
    go_ret3
    exact ⟨ret3_p (HV.out.trans rfl), B4⟩

end Go.Proofs.YtpflliophellgaaGreatDoor.N
