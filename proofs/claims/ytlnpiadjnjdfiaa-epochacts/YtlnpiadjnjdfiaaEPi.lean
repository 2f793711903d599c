/- Publish, Min, Pin, Unpin: under the lock. -/
import Derived.Test.YtlnpiadjnjdfiaaELe
namespace Go.Proofs.Ytlnpiadjnjdfiaa.E
open Go.RowKit
open Go.MuLone
set_option maxRecDepth 100000

/-- The lock is taken. -/
theorem lock_it {w : World} {b n : Nat} {now : Int} {S : List Int} {v : Value} (h : Bx w b n now S 0 v) : Calls Try.prog 30 #[.pointer (some ⟨b, 10, none⟩)] w fun e w' => (∃ v, e = .returned v) ∧ Bx w' b n now S 1 v ∧ Kv b v w v w' ∧ w' = w.setCell ⟨b, 10, none⟩ (.int .i32 1) := by
  refine (lock_free muLib ⟨b, 10, none⟩ w h.lock (h.unfrozen 10)).mono ?_
  rintro e w' ⟨rfl, rfl⟩
  exact ⟨⟨_, rfl⟩, h.setLock 1, (Kv.refl _ _ _).setB 10 _, rfl⟩
/-- The lock is given back, behind the call. -/
theorem free_it {w : World} {b n : Nat} {now : Int} {S : List Int} {v : Value} (h : Bx w b n now S 1 v) : CallsD Try.prog 31 #[.pointer (some ⟨b, 10, none⟩)] .returning w fun e u' w' => u' = .returning ∧ e = .returned (.tuple #[]) ∧ Bx w' b n now S 0 v ∧ Kv b v w v w' ∧ w' = w.setCell ⟨b, 10, none⟩ (.int .i32 0) := by
  refine (unlock_deferred muLib ⟨b, 10, none⟩ .returning w h.lock (h.unfrozen 10)).mono ?_
  rintro e u' w' ⟨rfl, rfl, rfl⟩
  exact ⟨rfl, rfl, h.setLock 0, (Kv.refl _ _ _).setB 10 _, rfl⟩
theorem ES.row_keep {w w' : World} {X : EX} {v : Value} {L : List It} (h : ES w X v L) (hb : ∀ g, v.ownBlock = some g → w'.heap[g]? = w.heap[g]?) {X' : EX} (hx : Bx w' X'.b X'.n X'.now X'.S X'.m v) (he : X'.b = X.b) : ES w' X' v L :=
  ⟨hx, ownsRow_keep h.row (fun g _ e => hb g e), by rw [he]; exact h.ne⟩

set_option maxHeartbeats 1000000 in
theorem publish_any {w : World} {X : EX} {v : Value} {L : List It} (h : EO w X v L) (h0 : 0 ≤ X.now) (h1 : X.now ≤ 1000000) : Calls Try.prog 11 #[.pointer (some ⟨X.b, 0, none⟩)] w fun e w' => e = .returned (.int .i64 (X.now + 1)) ∧ EO w' { X with now := X.now + 1 } v L ∧ Kv X.b v w v w' := by
  have hbx : Bx w X.b X.n X.now X.S 0 v := by have := h.es.bx; rw [h.m] at this; exact this
  have hm := hid_mk (made_any h.es.bx.pins h.n1)
  have hl := hid_mk (lock_it hbx)
  have hw : X.now + 1 = wrap64 (X.now + 1) := by unfold wrap64; omega
  have HEO : Hid (∀ w', w' = ((w.setCell ⟨X.b, 10, none⟩ (.int .i32 1)).setCell ⟨X.b, 1, none⟩ (.int .i64 (X.now + 1))).setCell ⟨X.b, 10, none⟩ (.int .i32 0) → EO w' { X with now := X.now + 1 } v L ∧ Kv X.b v w v w') := fun w' hw' => by
    have hb2 : Bx w' X.b X.n (X.now + 1) X.S 0 v := by rw [hw']; exact ((hbx.setLock 1).setNow _).setLock 0
    have hk : Kv X.b v w v w' := by rw [hw']; exact (((Kv.refl _ _ _).setB 10 _).setB 1 _).setB 10 _
    refine ⟨⟨h.es.row_keep (fun g hg => ?_) (X' := { X with now := X.now + 1 }) (by dsimp only; rw [h.m]; exact hb2) rfl, h.m, h.n1, h.n8, h.hp⟩, hk⟩
    have hgb : g ≠ X.b := fun e => h.es.ne (by rw [hg, e])
    rw [hw']
    exact (Below.heap_setCell _ ⟨X.b, 10, none⟩ _ g hgb).trans ((Below.heap_setCell _ ⟨X.b, 1, none⟩ _ g hgb).trans (Below.heap_setCell _ ⟨X.b, 10, none⟩ _ g hgb))
  clear h hbx
  go_enter_defers Try.func11, Try.ntmps11
  go_wp2_with (go_at_call 29; refine hm.out.mono ?_; rintro e w' ⟨rfl, rfl⟩)
  refine hl.out.mono ?_
  rintro e w1 ⟨⟨v1, rfl⟩, hb1, _, hw1⟩
  have ha := hid_mk (add_any (y := 1) hb1.now (hb1.unfrozen 1) hw)
  have HB1 := hid_mk hb1
  have HW1 := hid_mk hw1
  clear hb1 hw1 hw
  go_wp2_with (go_at_call 32; fail)
  refine ha.out.mono ?_
  rintro e w2 ⟨rfl, hw2⟩
  have hb2 : Bx w2 X.b X.n (X.now + 1) X.S 1 v := by rw [hw2]; exact HB1.out.setNow _
  have HW2 := hid_mk hw2
  clear hw2
  go_wp2
  refine leaves_cons (f := 31) (args := #[.pointer (some ⟨X.b, 10, none⟩)]) (by simp) (by simp [go_sem]) ?_
  refine (free_it hb2).mono ?_
  rintro e u' w3 ⟨rfl, rfl, _, _, hw3⟩
  refine ⟨_, results_tmp rfl _ _ _, rfl, HEO.out _ ?_⟩
  rw [hw3, HW2.out, HW1.out]

/-- Only the block of the epochs was written to. -/
theorem EO.write {w w' : World} {X : EX} {v : Value} {L : List It} (h : EO w X v L) {now' : Int} {S' : List Int} (hx : Bx w' X.b X.n now' S' 0 v) (hk : Kx X.b X.b w w') : EO w' { X with now := now', S := S' } v L ∧ Kv X.b v w v w' := by
  refine ⟨⟨h.es.row_keep (fun g hg => ?_) (X' := { X with now := now', S := S' }) (by dsimp only; rw [h.m]; exact hx) rfl, h.m, h.n1, h.n8, h.hp⟩, ⟨hk.os, hk.tape, hk.output, hk.size, fun k hk1 h2 _ => hk.block k hk1 h2 h2, fun k e => .inl e⟩⟩
  have hgb : g ≠ X.b := fun e => h.es.ne (by rw [hg, e])
  exact hk.block g (h.es.lt hg) hgb hgb
theorem EO.locked {w w' : World} {X : EX} {v : Value} {L : List It} (h : EO w X v L) (hw : w' = (w.setCell ⟨X.b, 10, none⟩ (.int .i32 1)).setCell ⟨X.b, 10, none⟩ (.int .i32 0)) : EO w' X v L ∧ Kv X.b v w v w' := by
  have hbx : Bx w X.b X.n X.now X.S 0 v := by have := h.es.bx; rw [h.m] at this; exact this
  exact h.write (now' := X.now) (S' := X.S) (by rw [hw]; exact (hbx.setLock 1).setLock 0) (by rw [hw]; exact ((Kx.refl _ _ _).set 10 _).set 10 _)

/-- The least that is held, or the epoch. -/
def minZ (X : EX) : Int := if (leastZ (X.S.take X.n)).2 = true then (leastZ (X.S.take X.n)).1 else X.now
set_option maxHeartbeats 1000000 in
theorem min_any {w : World} {X : EX} {v : Value} {L : List It} (h : EO w X v L) : Calls Try.prog 24 #[.pointer (some ⟨X.b, 0, none⟩)] w fun e w' => e = .returned (.int .i64 (minZ X)) ∧ EO w' X v L ∧ Kv X.b v w v w' := by
  have hbx : Bx w X.b X.n X.now X.S 0 v := by have := h.es.bx; rw [h.m] at this; exact this
  have hm := hid_mk (made_any h.es.bx.pins h.n1)
  have hl := hid_mk (lock_it hbx)
  have HEO : Hid (∀ w', w' = (w.setCell ⟨X.b, 10, none⟩ (.int .i32 1)).setCell ⟨X.b, 10, none⟩ (.int .i32 0) → EO w' X v L ∧ Kv X.b v w v w') := fun w' hw' => h.locked hw'
  have HN := hid_mk (And.intro h.n1 h.n8)
  have HMZ : Hid (minZ X = if (leastZ (X.S.take X.n)).2 = true then (leastZ (X.S.take X.n)).1 else X.now) := rfl
  obtain ⟨r, hr⟩ : ∃ r, r = minZ X := ⟨_, rfl⟩
  rw [← hr] at HMZ ⊢
  clear h hbx hr
  go_enter_defers Try.func24, Try.ntmps24
  go_wp2_with (go_at_call 29; refine hm.out.mono ?_; rintro e w' ⟨rfl, rfl⟩)
  refine hl.out.mono ?_
  rintro e w1 ⟨⟨v1, rfl⟩, hb1, _, hw1⟩
  have ha := hid_mk (least_any hb1 HN.out.2)
  have hn := hid_mk (now_any hb1 HN.out.1)
  have HB1 := hid_mk hb1
  have HW1 := hid_mk hw1
  generalize leastZ (X.S.take X.n) = p at *
  obtain ⟨l, hd⟩ := p
  dsimp only at *
  clear hb1 hw1
  go_wp2_with (go_at_call 39; fail)
  refine ha.out.mono ?_
  rintro e w2 ⟨rfl, rfl⟩
  cases hd
  · have HR : Hid (r = X.now) := HMZ.out
    go_wp2_with (go_at_call 23; refine hn.out.mono ?_; rintro e w' ⟨rfl, rfl⟩)
    refine leaves_cons (f := 31) (args := #[.pointer (some ⟨X.b, 10, none⟩)]) (by simp) (by simp [go_sem]) ?_
    refine (free_it HB1.out).mono ?_
    rintro e u' w3 ⟨rfl, rfl, _, _, hw3⟩
    refine ⟨_, results_tmp rfl _ _ _, by rw [HR.out]; rfl, HEO.out _ ?_⟩
    rw [hw3, HW1.out]
  · have HR : Hid (r = l) := HMZ.out
    go_wp2
    refine leaves_cons (f := 31) (args := #[.pointer (some ⟨X.b, 10, none⟩)]) (by simp) (by simp [go_sem]) ?_
    refine (free_it HB1.out).mono ?_
    rintro e u' w3 ⟨rfl, rfl, _, _, hw3⟩
    refine ⟨_, results_tmp rfl _ _ _, by rw [HR.out]; rfl, HEO.out _ ?_⟩
    rw [hw3, HW1.out]

set_option maxHeartbeats 1000000 in
theorem unpin_any {w : World} {X : EX} {v : Value} {L : List It} (h : EO w X v L) (i : Int) : Calls Try.prog 15 #[.pointer (some ⟨X.b, 0, none⟩), .int .i64 i] w fun e w' => Kv X.b v w v w' ∧ if pinZ X.n X.S i = 0 then e = .returned (.int .i64 3) ∧ EO w' X v L else e = .returned (.int .i64 0) ∧ EO w' { X with S := X.S.set i.toNat 0 } v L := by
  have hbx : Bx w X.b X.n X.now X.S 0 v := by have := h.es.bx; rw [h.m] at this; exact this
  have hm := hid_mk (made_any h.es.bx.pins h.n1)
  have hh := hid_mk (has_any h.es.bx.pins h.n1 i)
  by_cases hi : inP X.n i = true
  · have h2 : 0 ≤ i ∧ i < (X.n : Int) := of_decide_eq_true hi
    have hn8 := h.n8
    obtain ⟨k, rfl⟩ : ∃ k : Nat, i = (k : Int) := ⟨i.toNat, by omega⟩
    have hk8 : k < 8 := by omega
    have hk : k < X.S.length := by rw [h.es.bx.len]; omega
    have HP : Hid (pinZ X.n X.S k = X.S[k]) := by
      show _ = _
      unfold pinZ
      rw [if_pos hi, Int.toNat_natCast, List.getD_eq_getElem?_getD, List.getElem?_eq_getElem hk]
      rfl
    have hl := hid_mk (lock_it hbx)
    have hset : Hid (∀ w', w' = ((w.setCell ⟨X.b, 10, none⟩ (.int .i32 1)).setCell ⟨X.b, 2 + k, none⟩ (.int .i64 0)).setCell ⟨X.b, 10, none⟩ (.int .i32 0) → EO w' { X with S := X.S.set k 0 } v L ∧ Kv X.b v w v w') := fun w' hw' =>
      h.write (now' := X.now) (S' := X.S.set k 0) (by rw [hw']; exact ((hbx.setLock 1).setSlot hk8 0).setLock 0) (by rw [hw']; exact (((Kx.refl _ _ _).set 10 _).set (2 + k) _).set 10 _)
    have HSK := hid_mk (List.getElem?_eq_getElem hk)
    rw [hi] at hh
    obtain ⟨s, hs⟩ : ∃ s, s = X.S[k] := ⟨_, rfl⟩
    rw [← hs] at HP HSK
    rw [HP.out, Int.toNat_natCast]
    clear h hbx hi HP hs
    by_cases h0 : s = 0
    · subst h0
      have hsame : Hid (X.S.set k 0 = X.S) := by
        show _ = _
        apply List.ext_getElem?
        intro j
        rw [List.getElem?_set]
        by_cases e : k = j
        · subst e
          rw [if_pos rfl, if_pos hk]
          exact HSK.out.symm
        · rw [if_neg e]
      simp only [↓reduceIte]
      go_enter_defers Try.func15, Try.ntmps15
      go_wp2_with (first
        | (go_at_call 29; refine hm.out.mono ?_; rintro e w' ⟨rfl, rfl⟩)
        | (go_at_call 36; refine hh.out.mono ?_; rintro e w' ⟨rfl, rfl⟩))
      refine hl.out.mono ?_
      rintro e w1 ⟨⟨v1, rfl⟩, hb1, _, hw1⟩
      have ha := hid_mk (swap_any (y := 0) (hb1.slot HSK.out) (hb1.unfrozen _))
      have HB1 := hid_mk hb1
      have HW1 := hid_mk hw1
      clear hb1 hw1
      go_wp2_with (go_at_call 37; fail)
      refine ha.out.mono ?_
      rintro e w2 ⟨rfl, hw2⟩
      have hb2 : Bx w2 X.b X.n X.now (X.S.set k 0) 1 v := by rw [hw2]; exact HB1.out.setSlot hk8 _
      have HW2 := hid_mk hw2
      clear hw2
      go_wp2
      refine leaves_cons (f := 31) (args := #[.pointer (some ⟨X.b, 10, none⟩)]) (by simp) (by simp [go_sem]) ?_
      refine (free_it hb2).mono ?_
      rintro e u' w3 ⟨rfl, rfl, _, _, hw3⟩
      have hf := hset.out w3 (by rw [hw3, HW2.out, HW1.out])
      rw [hsame.out] at hf
      exact ⟨_, results_tmp rfl _ _ _, hf.2, rfl, hf.1⟩
    · simp only [if_neg h0]
      go_enter_defers Try.func15, Try.ntmps15
      go_wp2_with (first
        | (go_at_call 29; refine hm.out.mono ?_; rintro e w' ⟨rfl, rfl⟩)
        | (go_at_call 36; refine hh.out.mono ?_; rintro e w' ⟨rfl, rfl⟩))
      refine hl.out.mono ?_
      rintro e w1 ⟨⟨v1, rfl⟩, hb1, _, hw1⟩
      have ha := hid_mk (swap_any (y := 0) (hb1.slot HSK.out) (hb1.unfrozen _))
      have HB1 := hid_mk hb1
      have HW1 := hid_mk hw1
      have hs0 : (s == 0) = false := by rw [beq_eq_false_iff_ne]; exact h0
      clear hb1 hw1 h0
      go_wp2_with (go_at_call 37; fail)
      refine ha.out.mono ?_
      rintro e w2 ⟨rfl, hw2⟩
      have hb2 : Bx w2 X.b X.n X.now (X.S.set k 0) 1 v := by rw [hw2]; exact HB1.out.setSlot hk8 _
      have HW2 := hid_mk hw2
      clear hw2
      go_wp2
      refine leaves_cons (f := 31) (args := #[.pointer (some ⟨X.b, 10, none⟩)]) (by simp) (by simp [go_sem]) ?_
      refine (free_it hb2).mono ?_
      rintro e u' w3 ⟨rfl, rfl, _, _, hw3⟩
      have hf := hset.out w3 (by rw [hw3, HW2.out, HW1.out])
      exact ⟨_, results_tmp rfl _ _ _, hf.2, rfl, hf.1⟩
  · have hi : inP X.n i = false := by simpa using hi
    have HR : pinZ X.n X.S i = 0 := by unfold pinZ; rw [hi]; rfl
    simp only [if_pos HR]
    rw [hi] at hh
    have HF : Hid (Kv X.b v w v w ∧ EO w X v L) := ⟨Kv.refl _ _ _, h⟩
    clear h hbx hi HR
    go_enter_defers Try.func15, Try.ntmps15
    go_wp2_with (first
      | (go_at_call 29; refine hm.out.mono ?_; rintro e w' ⟨rfl, rfl⟩)
      | (go_at_call 36; refine hh.out.mono ?_; rintro e w' ⟨rfl, rfl⟩))
    exact ⟨_, results_tmp rfl _ _ _, HF.out.1, rfl, HF.out.2⟩

/-- The first free slot. -/
def FreeAt (n : Nat) (S : List Int) (k : Nat) : Prop := k < n ∧ S[k]? = some 0 ∧ ∀ (i : Nat) (s : Int), i < k → S[i]? = some s → s ≠ 0
def NoFree (n : Nat) (S : List Int) : Prop := ∀ (i : Nat) (s : Int), i < n → S[i]? = some s → s ≠ 0
set_option maxHeartbeats 2000000 in
theorem pin_any {w : World} {X : EX} {v : Value} {L : List It} (h : EO w X v L) : Calls Try.prog 13 #[.pointer (some ⟨X.b, 0, none⟩)] w fun e w' => Kv X.b v w v w' ∧ ((∃ k, FreeAt X.n X.S k ∧ e = .returned (.tuple #[.int .i64 (k : Int), .int .i64 0]) ∧ EO w' { X with S := X.S.set k X.now } v L) ∨ (NoFree X.n X.S ∧ e = .returned (.tuple #[.int .i64 0, .int .i64 6]) ∧ EO w' X v L)) := by
  have hbx : Bx w X.b X.n X.now X.S 0 v := by have := h.es.bx; rw [h.m] at this; exact this
  have hm := hid_mk (made_any h.es.bx.pins h.n1)
  have hl := hid_mk (lock_it hbx)
  have HN8 := hid_mk h.n8
  have HWR : Hid (∀ w' S', Bx w' X.b X.n X.now S' 0 v → Kx X.b X.b w w' → EO w' { X with S := S' } v L ∧ Kv X.b v w v w') := fun w' S' h1 h2 => h.write (now' := X.now) (S' := S') h1 h2
  clear h hbx
  go_enter_defers Try.func13, Try.ntmps13
  go_wp2_with (go_at_call 29; refine hm.out.mono ?_; rintro e w' ⟨rfl, hw⟩; rw [hw]; clear hw w')
  refine hl.out.mono ?_
  rintro e w1 ⟨⟨v1, rfl⟩, hb1, _, hw1⟩
  have hp1 := hb1.pins
  have HB1 := hid_mk hb1
  have HK1 : Hid (Kx X.b X.b w w1) := by show Kx _ _ _ _; rw [hw1]; exact (Kx.refl _ _ _).set 10 _
  have HLEN : Hid (X.S.length = 8) := hb1.len
  clear hb1 hw1 hm hl
  go_wp2
  clear hp1
  go_loopw [19] (fun p wr => ∃ k : Nat, k ≤ X.n ∧ p = .int .i64 (k : Int) ∧ Hid (NoFree k X.S) ∧ Hid (Bx wr X.b X.n X.now X.S 1 v) ∧ Hid (Kx X.b X.b w wr)) (fun p _ => X.n + 1 - (intOf p).toNat)
  case atStart => exact ⟨0, Nat.zero_le _, rfl, fun i s hi => by omega, HB1, HK1⟩
  case round =>
    clear HB1 HK1
    obtain ⟨k, hk, rfl, HNF, HB1, HK1⟩ := hrel
    by_cases hkn : k < X.n
    · have hk8 : k < 8 := by have := HN8.out; omega
      have hkl : k < X.S.length := by have := HLEN.out; omega
      have HSK := hid_mk (List.getElem?_eq_getElem hkl)
      obtain ⟨s, hs⟩ : ∃ s, s = X.S[k] := ⟨_, rfl⟩
      rw [← hs] at HSK
      clear hs hkl
      have hkn2 : (k : Int) < (X.n : Int) := by omega
      have hix0 : (0 : Int) ≤ (k : Int) := by omega
      have hix8 : (k : Int) < 8 := by omega
      have hix1 : ¬ (k : Int) < 0 := by omega
      have hix2 : (0 : Int) ≤ (k : Int) ∧ (k : Int) < 8 := ⟨hix0, hix8⟩
      have hixn : Int.toNat (k : Int) = k := by simp
      have HB1D : Hid (Bx wr.drew X.b X.n X.now X.S 1 v) := HB1.out.keep rfl
      have HL1D := hid_mk (load_any HB1D.out.now)
      by_cases h0 : s = 0
      · subst h0
        have hcd := hid_mk (cas_hit (y := X.now) (HB1D.out.slot HSK.out) (HB1D.out.unfrozen _))
        go_upto_region 8 with (fail)
        go_region_held3 (fun _ => True) (trivial)
          (first
          | (go_at_call 34; with_reducible refine HL1D.out.mono ?_; rintro e w' ⟨rfl, hw⟩; rw [hw]; clear hw w')
          | (go_at_call 33; with_reducible refine hcd.out.mono ?_; rintro e w2 ⟨rfl, hw2⟩))
        all_goals
          have hb2 : Bx (wr.setCell ⟨X.b, 2 + k, none⟩ (.int .i64 X.now)).drew X.b X.n X.now (X.S.set k X.now) 1 v := (HB1.out.setSlot hk8 _).keep rfl
          have HK2 : Hid (Kx X.b X.b w (wr.setCell ⟨X.b, 2 + k, none⟩ (.int .i64 X.now)).drew) := (HK1.out.set _ _).drew
          have HB2 := hid_mk hb2
          generalize (wr.setCell ⟨X.b, 2 + k, none⟩ (.int .i64 X.now)).drew = w3 at *
          clear hw2 hb2
          go_wp2
          refine leaves_cons (f := 31) (args := #[.pointer (some ⟨X.b, 10, none⟩)]) (by simp) (by simp [go_sem]) ?_
          refine (free_it HB2.out).mono ?_
          rintro e u' w4 ⟨rfl, rfl, hb4, _, hw4⟩
          have hf := HWR.out w4 _ hb4 (by rw [hw4]; exact HK2.out.set 10 _)
          exact ⟨_, results_tmp2 rfl _ _ _, hf.2, .inl ⟨k, ⟨hkn, HSK.out, HNF.out⟩, rfl, hf.1⟩⟩
      · have hcd := hid_mk (cas_miss (y := X.now) (HB1D.out.slot HSK.out) (HB1D.out.unfrozen _) h0)
        have HNF2 : Hid (NoFree (k + 1) X.S) := fun i s' hi hs' => by
          by_cases e : i = k
          · subst e
            rw [HSK.out] at hs'
            cases hs'
            exact h0
          · exact HNF.out i s' (by omega) hs'
        clear h0
        go_upto_region 8 with (fail)
        go_region_held3 (fun _ => True) (trivial)
          (first
          | (go_at_call 34; with_reducible refine HL1D.out.mono ?_; rintro e w' ⟨rfl, hw⟩; rw [hw]; clear hw w')
          | (go_at_call 33; with_reducible refine hcd.out.mono ?_; rintro e w2 ⟨rfl, hw2⟩; rw [hw2]; clear hw2 w2))
        all_goals
          have HK2 : Hid (Kx X.b X.b w wr.drew) := HK1.out.drew
          go_wp2
          exact ⟨⟨k + 1, by omega, by simp, HNF2, HB1D, HK2⟩, by simp [intOf]; omega⟩
    · have hke : k = X.n := by omega
      have hkn2 : ¬ (k : Int) < (X.n : Int) := by omega
      have hb2 := HB1.out
      go_wp2
      refine leaves_cons (f := 31) (args := #[.pointer (some ⟨X.b, 10, none⟩)]) (by simp) (by simp [go_sem]) ?_
      refine (free_it hb2).mono ?_
      rintro e u' w3 ⟨rfl, rfl, hb3, _, hw3⟩
      have hf := HWR.out w3 X.S hb3 (by rw [hw3]; exact HK1.out.set 10 _)
      exact ⟨_, results_tmp2 rfl _ _ _, hf.2, .inr ⟨by rw [← hke]; exact HNF.out, rfl, hf.1⟩⟩
end Go.Proofs.Ytlnpiadjnjdfiaa.E
