/- nth.written, whatever the values. -/
import Derived.Test.YtpflliophellgaaGreatDoorNTold
namespace Go.Proofs.YtpflliophellgaaGreatDoor.N
open Go.RowKit

/-- What is written of a token; none: it may not stand here. -/
def toldZ (k : Int) (tx un : ByteArray) (wh : Bool) : Option (List Int) :=
  if k = 1 then some (bytesL tx)
  else if k = 10 then (if wh then some (bytesL tx) else none)
  else if k = 12 then (if wh then some (bytesL tx ++ bytesL un) else none)
  else if k = 9 then (if tx = ⟨#[43]⟩ ∨ tx = ⟨#[45]⟩ then some (bytesL tx) else none)
  else if k = 13 then some [32] else none
theorem told_any (b : Nat) (ns : List Int) (k : Int) (tx un : ByteArray) (wh fl : Bool) (w : World) (h : Wr b ns w) (hl : ns.length + tx.size + un.size + 1 ≤ 140737488355328) :
    Calls Tryz.prog 38 #[.agg #[.int .i64 k, .string tx, .string un, .bool wh, .bool fl], (.func (.func 36) #[] #[.pointer (some ⟨b, 0, none⟩)])] w fun e w' => ∃ (ok : Bool) (part : List Int), e = .returned (.bool ok) ∧ Wr b (ns ++ part) w' ∧ Below b w w' ∧ ((ok = true ∧ toldZ k tx un wh = some part) ∨ (ok = false ∧ toldZ k tx un wh = none)) := by
  by_cases k1 : k = 1
  · subst k1
    refine (told_1 b ns tx un wh fl w h (by omega)).mono ?_
    rintro e w' ⟨rfl, h1, h2⟩
    exact ⟨true, _, rfl, h1, h2, .inl ⟨rfl, rfl⟩⟩
  by_cases k10 : k = 10
  · subst k10
    refine (told_10 b ns tx un wh fl w h (by omega)).mono ?_
    rintro e w' ⟨rfl, h1, h2⟩
    refine ⟨wh, _, rfl, h1, h2, ?_⟩
    cases wh
    · exact .inr ⟨rfl, rfl⟩
    · exact .inl ⟨rfl, rfl⟩
  by_cases k12 : k = 12
  · subst k12
    refine (told_12 b ns tx un wh fl w h (by omega)).mono ?_
    rintro e w' ⟨rfl, h1, h2⟩
    refine ⟨wh, bytesL tx ++ bytesL un, rfl, by rw [← List.append_assoc]; exact h1, h2, ?_⟩
    cases wh
    · exact .inr ⟨rfl, rfl⟩
    · exact .inl ⟨rfl, rfl⟩
  by_cases k9 : k = 9
  · subst k9
    by_cases p43 : tx = ⟨#[43]⟩
    · subst p43
      refine (told_9p b ns un wh fl w h (by omega)).mono ?_
      rintro e w' ⟨rfl, h1, h2⟩
      exact ⟨true, _, rfl, h1, h2, .inl ⟨rfl, by unfold toldZ; simp⟩⟩
    by_cases p45 : tx = ⟨#[45]⟩
    · subst p45
      refine (told_9m b ns un wh fl w h (by omega)).mono ?_
      rintro e w' ⟨rfl, h1, h2⟩
      exact ⟨true, _, rfl, h1, h2, .inl ⟨rfl, by unfold toldZ; simp⟩⟩
    refine (told_9n b ns tx un wh fl w h (by omega) p43 p45).mono ?_
    rintro e w' ⟨rfl, h1, h2⟩
    exact ⟨false, _, rfl, h1, h2, .inr ⟨rfl, by unfold toldZ; simp [p43, p45]⟩⟩
  by_cases k13 : k = 13
  · subst k13
    refine (told_13 b ns tx un wh fl w h (by omega)).mono ?_
    rintro e w' ⟨rfl, h1, h2⟩
    exact ⟨true, _, rfl, h1, h2, .inl ⟨rfl, rfl⟩⟩
  refine (told_no b ns tx un wh fl w h k (by omega)).mono ?_
  rintro e w' ⟨rfl, h1, h2⟩
  exact ⟨false, [], rfl, by rw [List.append_nil]; exact h1, h2, .inr ⟨rfl, by unfold toldZ; simp [k1, k9, k10, k12, k13]⟩⟩

/-- A value: its token, and where its Kids lie. -/
structure Tk where
  k : Int
  tx : ByteArray
  un : ByteArray
  wh : Bool
  fl : Bool
  kid : Value
def tkCells (t : Tk) : List Value := [.int .i64 t.k, .string t.tx, .string t.un, .bool t.wh, .bool t.fl, t.kid]
def Kid (v : Value) : Prop := v = .slice none 0 0 ∨ ∃ a l c, v = .slice (some a) l c
/-- The slice v holds the values ts. -/
def ValsAt (W : World) (v : Value) (ts : List Tk) : Prop :=
  ∃ a cap, v = .slice a ts.length cap ∧ ts.length ≤ cap ∧ cap ≤ 9223372036854775807 ∧ (∀ t ∈ ts, Kid t.kid) ∧ (0 < ts.length → ∃ b off, a = some ⟨b, off, none⟩ ∧ b < W.heap.size ∧ ∀ i (h : i < ts.length), ∀ j y, (tkCells (ts[i]'h))[j]? = some y → W.cell? ⟨b, off + i * 6 + j, none⟩ = some y)
theorem ValsAt.below {W W' : World} {v : Value} {ts : List Tk} (h : ValsAt W v ts) (hb : Below W.heap.size W W') : ValsAt W' v ts := by
  obtain ⟨a, cap, hv, h1, h2, h3, h4⟩ := h
  refine ⟨a, cap, hv, h1, h2, h3, fun h0 => ?_⟩
  obtain ⟨b, off, ha, hlt, hc⟩ := h4 h0
  exact ⟨b, off, ha, Nat.lt_of_lt_of_le hlt hb.size, fun i h j y hy => (hb.cell (p := ⟨b, off + i * 6 + j, none⟩) hlt).trans (hc i h j y hy)⟩
theorem list_of {α : Type} {P : Nat → α → Prop} : ∀ n, (∀ i, i < n → ∃ x, P i x) → ∃ l : List α, l.length = n ∧ ∀ i (h : i < l.length), P i (l[i]'h)
  | 0, _ => ⟨[], rfl, fun i h => by simp at h⟩
  | n + 1, h => by
    obtain ⟨l, hl, hp⟩ := list_of n (fun i hi => h i (by omega))
    obtain ⟨x, hx⟩ := h n (by omega)
    refine ⟨l ++ [x], by simp [hl], fun i hi => ?_⟩
    by_cases hin : i < l.length
    · rw [List.getElem_append_left hin]
      exact hp i hin
    · have hi' : i = n := by simp at hi; omega
      subst hi'
      rw [List.getElem_append_right (by omega)]
      simpa using hx
def toldT (t : Tk) : Option (List Int) := toldZ t.k t.tx t.un t.wh
def gathered : List Tk → Option (List Int)
  | [] => some []
  | t :: r => match toldT t, gathered r with
    | some a, some c => some (a ++ c)
    | _, _ => none
theorem gathered_snoc : ∀ (l : List Tk) (t : Tk), gathered (l ++ [t]) = match gathered l, toldT t with | some a, some c => some (a ++ c) | _, _ => none
  | [], t => by
    simp only [List.nil_append, gathered]
    cases toldT t <;> simp
  | x :: r, t => by
    simp only [List.cons_append, gathered, gathered_snoc r t]
    cases toldT x <;> cases gathered r <;> cases toldT t <;> simp
theorem gathered_none : ∀ (l : List Tk) (t : Tk), t ∈ l → toldT t = none → gathered l = none
  | x :: r, t, h, hn => by
    rcases List.mem_cons.1 h with rfl | h
    · simp [gathered, hn]
    · have := gathered_none r t h hn
      simp only [gathered, this]
      cases toldT x <;> rfl

end Go.Proofs.YtpflliophellgaaGreatDoor.N
