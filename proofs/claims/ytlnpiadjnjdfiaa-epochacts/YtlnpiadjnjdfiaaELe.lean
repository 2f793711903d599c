/- least; New; Publish; Min. -/
import Derived.Test.YtlnpiadjnjdfiaaEFn
namespace Go.Proofs.Ytlnpiadjnjdfiaa.E
open Go.RowKit
open Go.MuLone
set_option maxRecDepth 100000

/-- One slot more is looked at. -/
def leS (p : Int × Bool) (e : Int) : Int × Bool := if e > 0 ∧ (p.2 = false ∨ e < p.1) then (e, true) else p
/-- The least that is held. -/
def leastZ (l : List Int) : Int × Bool := l.foldl leS (0, false)
theorem least_any {w : World} {b n : Nat} {now : Int} {S : List Int} {m : Int} {v : Value} (h : Bx w b n now S m v) (hn8 : n ≤ 8) : Calls Try.prog 39 #[.pointer (some ⟨b, 0, none⟩)] w fun e w' => e = .returned (.tuple #[.int .i64 (leastZ (S.take n)).1, .bool (leastZ (S.take n)).2]) ∧ w' = w := by
  have hp := h.pins
  have HL : Hid (∀ (k : Nat) (hk : k < n), ∃ s, S[k]? = some s ∧ Calls Try.prog 34 #[.pointer (some ⟨b, 2 + k, none⟩)] w fun e w' => e = .returned (.int .i64 s) ∧ w' = w) := fun k hk => by
    have hk8 : k < S.length := by rw [h.len]; omega
    exact ⟨S[k], List.getElem?_eq_getElem hk8, load_any (h.slot (List.getElem?_eq_getElem hk8))⟩
  have HF : Hid (∀ (k : Nat) (s : Int), k < n → S[k]? = some s → leastZ (S.take (k + 1)) = leS (leastZ (S.take k)) s) := fun k s hk hs => by
    unfold leastZ
    rw [List.take_add_one, hs, List.foldl_append]
    rfl
  have HW : Hid (leastZ (S.take 0) = (0, false)) := rfl
  clear h
  go_enter Try.func39, Try.ntmps39
  go_wp2
  go_loopw [12, 4, 5] (fun p q r wr => ∃ k : Nat, k ≤ n ∧ p = .int .i64 (k : Int) ∧ q = .int .i64 (leastZ (S.take k)).1 ∧ r = .bool (leastZ (S.take k)).2 ∧ wr = w) (fun p _ _ _ => n + 1 - (intOf p).toNat)
  case atStart => exact ⟨0, Nat.zero_le _, rfl, by rw [HW.out], by rw [HW.out], rfl⟩
  case round =>
    obtain ⟨k, hk, rfl, rfl, rfl, rfl⟩ := hrel
    by_cases hkn : k < n
    · obtain ⟨s, hs, hl⟩ := HL.out k hkn
      have HN := hid_mk (HF.out k s hkn hs)
      have HL2 := hid_mk hl
      obtain ⟨z, hz⟩ : ∃ z, z = leastZ (S.take k) := ⟨_, rfl⟩
      rw [← hz] at HN ⊢
      obtain ⟨l, hd⟩ := z
      dsimp only at *
      have hk8 : k < 8 := by omega
      have hkn2 : (k : Int) < (n : Int) := by omega
      clear hs hz hl hk
      have HT : Hid (∀ p, leastZ (S.take (k + 1)) = p → (∃ k' : Nat, k' ≤ n ∧ (Value.int .i64 ((k : Int) + 1)) = .int .i64 (k' : Int) ∧ (Value.int .i64 p.1) = .int .i64 (leastZ (S.take k')).1 ∧ (Value.bool p.2) = .bool (leastZ (S.take k')).2 ∧ wr = wr)) := fun p hp => ⟨k + 1, by omega, by simp, by rw [hp], by rw [hp], rfl⟩
      unfold leS at HN
      by_cases h0 : s > 0
      · cases hd
        · rw [if_pos ⟨h0, .inl rfl⟩] at HN
          go_wp2_with (go_at_call 34; refine HL2.out.mono ?_; rintro e w' ⟨rfl, rfl⟩)
          exact ⟨HT.out _ HN.out, by simp [intOf]; omega⟩
        · by_cases h1 : s < l
          · rw [if_pos ⟨h0, .inr h1⟩] at HN
            go_wp2_with (go_at_call 34; refine HL2.out.mono ?_; rintro e w' ⟨rfl, rfl⟩)
            exact ⟨HT.out _ HN.out, by simp [intOf]; omega⟩
          · rw [if_neg (by simp; omega)] at HN
            go_wp2_with (go_at_call 34; refine HL2.out.mono ?_; rintro e w' ⟨rfl, rfl⟩)
            exact ⟨HT.out _ HN.out, by simp [intOf]; omega⟩
      · rw [if_neg (by omega)] at HN
        go_wp2_with (go_at_call 34; refine HL2.out.mono ?_; rintro e w' ⟨rfl, rfl⟩)
        exact ⟨HT.out _ HN.out, by simp [intOf]; omega⟩
    · have hkn2 : k = n := by omega
      subst hkn2
      go_wp2
      exact bodyPost_ret (v := .tuple #[.int .i64 (leastZ (S.take k)).1, .bool (leastZ (S.take k)).2]) (by simp [results, Try.results39, go_sem]) rfl ⟨rfl, rfl⟩

/-- Epochs, as a call of New made them and calls left them: free of the lock. -/
structure EO (w : World) (X : EX) (v : Value) (L : List It) : Prop where
  es : ES w X v L
  m : X.m = 0
  n1 : 1 ≤ X.n
  n8 : X.n ≤ 8
  hp : HeapL bt L.length L
theorem EO.keep {w w' : World} {X : EX} {v : Value} {L : List It} (h : EO w X v L) (hb : Below w.heap.size w w') : EO w' X v L := ⟨h.es.keep hb, h.m, h.n1, h.n8, h.hp⟩

theorem new_bad (w : World) (n : Int) (h : n < 1 ∨ n > 8) : Calls Try.prog 8 #[.int .i64 n] w fun e w' => e = .returned (.pointer none) ∧ w' = w := by
  by_cases h1 : n < 1
  · go_enter Try.func8, Try.ntmps8
    go_wp2
    go_ret
    exact ⟨rfl, rfl⟩
  · have h2 : n > 8 := by omega
    go_enter Try.func8, Try.ntmps8
    go_wp2
    go_ret
    exact ⟨rfl, rfl⟩
theorem new_any (w : World) (n : Nat) (h1 : 1 ≤ n) (h8 : n ≤ 8) : Calls Try.prog 8 #[.int .i64 (n : Int)] w fun e w' => e = .returned (.pointer (some ⟨w.heap.size, 0, none⟩)) ∧ EO w' ⟨w.heap.size, n, 1, [0, 0, 0, 0, 0, 0, 0, 0], 0⟩ (.slice none 0 0) [] ∧ Below w.heap.size w w' := by
  obtain ⟨o, ho⟩ : ∃ o, o = Obj.cells #[.int .i64 (n : Int), .int .i64 0, .int .i64 0, .int .i64 0, .int .i64 0, .int .i64 0, .int .i64 0, .int .i64 0, .int .i64 0, .int .i64 0, .int .i32 0, .int .u32 0, .slice none 0 0] 69 := ⟨_, rfl⟩
  have hbx : Bx (w.alloc o) w.heap.size n 0 [0, 0, 0, 0, 0, 0, 0, 0] 0 (.slice none 0 0) := by
    rw [ho]
    exact ⟨⟨_, heap_alloc_last w _, rfl⟩, rfl, by simp⟩
  obtain ⟨o1, ho1⟩ : ∃ o1, o1 = Obj.cells #[.int .i64 (n : Int), .int .i64 1, .int .i64 0, .int .i64 0, .int .i64 0, .int .i64 0, .int .i64 0, .int .i64 0, .int .i64 0, .int .i64 0, .int .i32 0, .int .u32 0, .slice none 0 0] 69 := ⟨_, rfl⟩
  have hbx1 : Bx (w.alloc o1) w.heap.size n 1 [0, 0, 0, 0, 0, 0, 0, 0] 0 (.slice none 0 0) := by
    rw [ho1]
    exact ⟨⟨_, heap_alloc_last w _, rfl⟩, rfl, by simp⟩
  have hs := hid_mk (store_any (y := 1) hbx.now (hbx.unfrozen 1))
  have HE : Hid (EO (w.alloc o1) ⟨w.heap.size, n, 1, [0, 0, 0, 0, 0, 0, 0, 0], 0⟩ (.slice none 0 0) [] ∧ Below w.heap.size w (w.alloc o1)) :=
    ⟨⟨⟨hbx1, own_nil _ _ _ _, by simp [Value.ownBlock]⟩, rfl, h1, h8, fun c x y _ hc => by simp at hc⟩, (Below.refl _ _).alloc (Nat.le_refl _) _⟩
  have d1 : decide ((n : Int) < 1) = false := decide_eq_false (by omega)
  have d2 : decide ((n : Int) > 8) = false := decide_eq_false (by omega)
  have hn1 : ¬ (n : Int) < 1 := by omega
  have hn2 : ¬ (n : Int) > 8 := by omega
  rw [ho] at hs
  rw [ho1] at HE
  clear hbx hbx1 ho ho1
  go_enter Try.func8, Try.ntmps8
  go_wp2_with (go_at_call 28; refine hs.out.mono ?_; rintro e w' ⟨⟨v', rfl⟩, hw⟩; rw [hw]; clear hw w')
  go_ret
  exact ⟨rfl, HE.out⟩
end Go.Proofs.Ytlnpiadjnjdfiaa.E
