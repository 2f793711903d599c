/- A text without comments has no two Spaces side by side; one of Blanks alone is one Space; behind a bracket stands what stands there. -/
import Derived.Test.YtbfgnfcecfjlnaaDoorSlash
namespace Go.Proofs.YtbfgnfcecfjlnaaDoor
open Go.RowKit

theorem TokAt.tail {w : World} {g off cap : Nat} {t : Tok} {ts : List Tok} (hcap : ts.length + 1 ≤ cap) (hc : ∀ (j : Nat) v, ((t :: ts).flatMap tokCells)[j]? = some v → w.cell? ⟨g, off + j, none⟩ = some v) :
    TokAt w (.slice (some ⟨g, off + 5, none⟩) ts.length (cap - 1)) ts := by
  refine ⟨_, _, rfl, by omega, fun _ => ⟨g, off + 5, rfl, fun j v hj => ?_⟩⟩
  have h2 : ((t :: ts).flatMap tokCells)[5 + j]? = some v := by
    rw [List.flatMap_cons, List.getElem?_append_right (by simp [tokCells])]
    have : 5 + j - (tokCells t).length = j := by simp [tokCells]
    rw [this]
    exact hj
  have := hc _ _ h2
  rw [← Nat.add_assoc] at this
  exact this
theorem round_text (s : ByteArray) : cutZ (⟨#[40]⟩ ++ s) = plainTok 21 [] :: cutZ s := by
  have h1 : ∀ c ∈ ([40] : List Int), Told c := by
    intro c hc
    simp at hc
    subst hc
    exact ⟨⟨by omega, by omega, by omega⟩, by omega, by omega, by omega⟩
  have h2 := joins h1 s
  have e : strOfNums (bytesZ [40]) = ⟨#[40]⟩ := by decide +kernel
  rw [e] at h2
  unfold cutZ
  rw [h2]
  exact in_round (runesZ s)
theorem blank_text : cutZ ⟨#[32, 9, 10, 32]⟩ = [plainTok 13 []] := by
  have e : runesZ ⟨#[32, 9, 10, 32]⟩ = [32, 9, 10, 32] := by decide +kernel
  unfold cutZ
  rw [e]
  exact blanks_alone
theorem cut_apart (s : ByteArray) (hs : ∀ j (h : j < s.size), (s[j]'h).toNat ≠ 47) : apart (cutZ s) = true :=
  spaces_apart _ _ (Nat.le_refl _) (runes_byte s 47 (by omega) (by omega) hs)
theorem toks_len : ∀ (n : Nat) (l : List Int), l.length ≤ n → (toks l).length ≤ l.length
  | 0, l, h => by
    have : l = [] := List.length_eq_zero_iff.1 (by omega)
    subst this; simp [toks, toksF]
  | n + 1, [], _ => by simp [toks, toksF]
  | n + 1, c :: t, h => by
    have hl := (one_less c t).length_le
    have ih := toks_len n (oneZ (c :: t)).2 (by simp at h; omega)
    have ho : (oneZ (c :: t)).1.toList.length ≤ 1 := by cases (oneZ (c :: t)).1 <;> simp
    rw [toks_cons, List.length_append]
    simp only [List.length_cons]
    omega
theorem cut_len (s : ByteArray) : (cutZ s).length ≤ s.size := Nat.le_trans (toks_len _ _ (Nat.le_refl _)) (runes_len s)
theorem apart_at : ∀ (ts : List Tok) (k : Nat) (h : k + 1 < ts.length), apart ts = true → ¬ ((ts[k + 1]'h).kind = 13 ∧ (ts[k]'(by omega)).kind = 13)
  | [], k, h, _ => by simp at h
  | [a], k, h, _ => by simp at h
  | a :: b :: r, 0, _, ha => by
    rw [apart, Bool.and_eq_true] at ha
    intro hh
    simp at hh
    simp [hh.1, hh.2] at ha
  | a :: b :: r, k + 1, h, ha => by
    rw [apart, Bool.and_eq_true] at ha
    have := apart_at (b :: r) k (by simpa using h) ha.2
    simpa using this
end Go.Proofs.YtbfgnfcecfjlnaaDoor
