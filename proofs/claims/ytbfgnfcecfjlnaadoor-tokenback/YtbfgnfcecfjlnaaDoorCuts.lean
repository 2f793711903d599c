/- What gouachelaw02.cut gives: the tokens of a text's characters. -/
import Derived.Test.YtbfgnfcecfjlnaaDoorToks
namespace Go.Proofs.YtbfgnfcecfjlnaaDoor
open Go.RowKit

theorem charsFrom_len (s : ByteArray) : ∀ (f pos : Nat), (charsFrom s f pos).length ≤ f
  | 0, _ => by simp [charsFrom]
  | f + 1, pos => by
    rw [charsFrom]
    split
    · have := charsFrom_len s f (pos + (Utf8.decode s pos).2)
      simp only [List.length_cons]
      omega
    · simp
theorem norm_len : ∀ (l : List Int) (last : Int), (normZ last l).length ≤ l.length
  | [], last => by simp [normZ]
  | c :: r, last => by
    have h1 := norm_len r c
    rw [normZ]
    split
    · simp only [List.length_cons]; omega
    · simp only [List.length_cons]; omega
theorem runes_len (s : ByteArray) : (runesZ s).length ≤ s.size := Nat.le_trans (norm_len _ _) (charsFrom_len s _ _)
theorem runes_fine (s : ByteArray) (hs : s.size ≤ 1000000000) : Fine (runesZ s) := ⟨Nat.le_trans (runes_len s) hs, fun c hc => (runes_told s c hc).1⟩

def cutZ (s : ByteArray) : List Tok := toks (runesZ s)

set_option maxHeartbeats 1000000 in
theorem cut_any (s : ByteArray) (w : World) (hs : s.size ≤ 1000000000) :
    Calls Tryd.prog 9 #[.string s] w fun e w' => ∃ out, e = .returned out ∧ Outs w.heap.size w' out (cutZ s) ∧ Below w.heap.size w w' := by
  obtain ⟨g, cap, W, hcv, hcap, hg, hcell, _, hB⟩ := bytesOf s w
  have hba : BytesAt W (.slice (some ⟨g, 0, none⟩) s.size cap) s := ⟨_, _, rfl, hcap, fun _ => ⟨g, 0, rfl, fun j hj => by simpa using hcell j hj⟩⟩
  have hru := runes_any _ s W (by omega) hba
  clear hcell hba
  go_enter Tryd.func9, Tryd.ntmps9
  go_wp2_with (go_at_call 18; fail)
  refine (hru).mono ?_
  rintro e w2 ⟨u, rfl, hown, hb2⟩
  have hrow := RowAt.own hown
  obtain ⟨a, c2, hu⟩ : ∃ a c2, u = .slice a (runesZ s).length c2 := by
    rcases hown.2 with ⟨hv, hz⟩ | ⟨g2, c2, cur, hv, _⟩
    · exact ⟨none, 0, by rw [hv, hz]⟩
    · exact ⟨_, c2, hv⟩
  have hlow : ∀ ad, a = some ad → ad.block < w2.heap.size := by
    intro ad e
    rcases hown.2 with ⟨hv, _⟩ | ⟨g2, c3, cur, hv, _, hg2, _⟩
    · rw [hv, e] at hu; cases hu
    · rw [hv, e] at hu
      cases hu
      exact (Array.getElem?_eq_some_iff.1 hg2).1
  subst hu
  have ht := tokens_any a c2 (runesZ s) w2 (runes_fine s hs) hrow hlow
  have B2 : Below w.heap.size w w2 := hB.trans (hb2.mono hB.size)
  clear hown hrow hlow
  go_wp2_with (go_at_call 17; fail)
  refine (ht).mono ?_
  rintro e w3 ⟨out, rfl, ho, hb3⟩
  go_wp2
  go_ret
  refine ⟨out, rfl, ?_, B2.trans (hb3.mono B2.size)⟩
  refine ⟨ho.1, ?_⟩
  rcases ho.2 with hn | ⟨g3, c3, cur, hv, hbg, rest⟩
  · exact .inl hn
  · exact .inr ⟨g3, c3, cur, hv, Nat.le_trans B2.size hbg, rest⟩
end Go.Proofs.YtbfgnfcecfjlnaaDoor
