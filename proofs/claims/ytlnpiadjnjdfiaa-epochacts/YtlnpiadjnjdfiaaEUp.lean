/- container/heap's up. -/
import Derived.Test.YtlnpiadjnjdfiaaEMe
namespace Go.Proofs.Ytlnpiadjnjdfiaa.E
open Go.RowKit
set_option maxRecDepth 100000

/-- All blocks but B and g are as they were. -/
structure Kx (B g : Nat) (w w' : World) : Prop where
  os : w'.os = w.os
  tape : w'.tape = w.tape
  output : w'.output = w.output
  size : w.heap.size ≤ w'.heap.size
  block : ∀ k, k < w.heap.size → k ≠ B → k ≠ g → w'.heap[k]? = w.heap[k]?
theorem Kx.refl (B g : Nat) (w : World) : Kx B g w w := ⟨rfl, rfl, rfl, Nat.le_refl _, fun _ _ _ _ => rfl⟩
theorem Kx.trans {B g : Nat} {a b c : World} (h : Kx B g a b) (k : Kx B g b c) : Kx B g a c :=
  ⟨k.os.trans h.os, k.tape.trans h.tape, k.output.trans h.output, Nat.le_trans h.size k.size, fun i hi h1 h2 => (k.block i (Nat.lt_of_lt_of_le hi h.size) h1 h2).trans (h.block i hi h1 h2)⟩
theorem Kx.of_below {B g : Nat} {a b : World} (h : Below a.heap.size a b) : Kx B g a b := ⟨h.os, h.tape, h.output, h.size, fun k hk _ _ => h.block k hk⟩
theorem Kx.below {B g n0 : Nat} {a b : World} (h : Kx B g a b) (hB : n0 ≤ B) (hg : n0 ≤ g) (hn : n0 ≤ a.heap.size) : Below n0 a b := ⟨h.os, h.tape, h.output, h.size, fun k hk => h.block k (by omega) (by omega) (by omega)⟩
theorem Kx.set {B g : Nat} {a w : World} (h : Kx B g a w) (o : Nat) (u : Value) : Kx B g a (w.setCell ⟨g, o, none⟩ u) :=
  h.trans ⟨rfl, rfl, rfl, by simp [World.setCell], fun k _ _ hk => Below.heap_setCell w ⟨g, o, none⟩ u k hk⟩
theorem Kx.put2 {B g : Nat} (w : World) (o : Nat) (r : It) : Kx B g w (E.put2 w g o r) :=
  ((Kx.refl B g w).set _ _).set _ _
theorem Kx.drew {B g : Nat} {a b : World} (h : Kx B g a b) : Kx B g a b.drew := ⟨h.os, h.tape, h.output, h.size, h.block⟩

/-- Epochs, but for what waits: its block, how many slots, the epoch, what the eight cells hold, the lock's state. -/
structure EX where
  b : Nat
  n : Nat
  now : Int
  S : List Int
  m : Int
/-- Epochs with a pile whose row lies in block g. -/
structure PAt (w : World) (X : EX) (g cap : Nat) (L : List It) : Prop where
  bx : Bx w X.b X.n X.now X.S X.m (.slice (some ⟨g, 0, none⟩) L.length cap)
  row : Pl w g cap L
  ne : X.b ≠ g
theorem PAt.cell {w : World} {X : EX} {g cap : Nat} {L : List It} (h : PAt w X g cap L) : w.cell? ⟨X.b, 12, none⟩ = some (.slice (some ⟨g, 0, none⟩) L.length cap) := h.bx.waits
theorem PAt.keep {w w' : World} {X : EX} {g cap : Nat} {L : List It} (h : PAt w X g cap L) (hb : Below w.heap.size w w') : PAt w' X g cap L :=
  ⟨h.bx.keep (hb.block X.b h.bx.lt), h.row.keep (hb.block g h.row.cap_le.2.2), h.ne⟩
theorem PAt.put {w : World} {X : EX} {g cap : Nat} {L : List It} (h : PAt w X g cap L) {i : Nat} (hi : i < L.length) (r : It) : PAt (put2 w g (i * 2) r) X g cap (L.set i r) := by
  refine ⟨?_, h.row.put hi r, h.ne⟩
  rw [List.length_set]
  have := Kx.put2 (B := w.heap.size) (g := g) w (i * 2) r
  exact h.bx.keep (this.block X.b h.bx.lt (by have := h.bx.lt; omega) h.ne)
theorem PAt.swap {w : World} {X : EX} {g cap : Nat} {L : List It} (h : PAt w X g cap L) {i j : Nat} (hi : i < L.length) (hj : j < L.length) : PAt (E.put2 (E.put2 w g (i * 2) L[j]) g (j * 2) L[i]).drew X g cap (swapL L i j hi hj) ∧ Kx X.b g w (E.put2 (E.put2 w g (i * 2) L[j]) g (j * 2) L[i]).drew := by
  have h1 : PAt (E.put2 (E.put2 w g (i * 2) L[j]) g (j * 2) L[i]) X g cap (swapL L i j hi hj) := (h.put hi L[j]).put (i := j) (by rw [List.length_set]; exact hj) L[i]
  have hk : Kx X.b g w (E.put2 (E.put2 w g (i * 2) L[j]) g (j * 2) L[i]) := (Kx.put2 w _ _).trans (Kx.put2 _ _ _)
  generalize E.put2 (E.put2 w g (i * 2) L[j]) g (j * 2) L[i] = x at *
  exact ⟨⟨⟨h1.bx.blk, h1.bx.len, h1.bx.lt⟩, h1.row, h1.ne⟩, hk.drew⟩
/-- Swap, called on the pile. -/
theorem swap_at {w : World} {X : EX} {g cap : Nat} {L : List It} (h : PAt w X g cap L) {i j : Nat} (hi : i < L.length) (hj : j < L.length) : Calls Try.prog 111 #[.slice (some ⟨g, 0, none⟩) L.length cap, .int .i64 (i : Int), .int .i64 (j : Int)] w fun e w' => (∃ v, e = .returned v) ∧ PAt w' X g cap (swapL L i j hi hj) ∧ Kx X.b g w w' := by
  by_cases hij : i = j
  · subst hij
    refine (pswap_self h.row i hi).mono fun e w' hh => ⟨hh.1, ?_⟩
    rw [hh.2]
    exact h.swap hi hi
  · refine (pswap_any h.row i j hi hj hij).mono fun e w' hh => ⟨hh.1, ?_⟩
    rw [hh.2]
    exact h.swap hi hj

/-- What up does in a round. -/
def UpGo (w : World) (X : EX) (g cap : Nat) (L : List It) (m : Nat) (a1 : Value) (wr : World) : Prop := ∃ (j : Nat) (K : List It), j ≤ m ∧ a1 = .int .i64 (j : Int) ∧ UpAt bt K j ∧ PAt wr X g cap K ∧ K.Perm L ∧ Kx X.b g w wr

set_option maxHeartbeats 2000000 in
theorem up_any (o : Ord bt) {w : World} {X : EX} {g cap : Nat} {L : List It} (h : PAt w X g cap L) (hL : L.length ≤ 1000000) {j : Nat} (hu : UpAt bt L j) : Calls Try.prog 51 #[.iface 78 (.pointer (some ⟨X.b, 12, none⟩)), .int .i64 (j : Int)] w fun e w' => (∃ v, e = .returned v) ∧ ∃ K : List It, HeapL bt K.length K ∧ PAt w' X g cap K ∧ K.Perm L ∧ Kx X.b g w w' := by
  have HST : Hid (UpGo w X g cap L j (.int .i64 (j : Int)) w) := ⟨j, L, Nat.le_refl _, rfl, hu, h, List.Perm.refl _, Kx.refl _ _ _⟩
  have HO := hid_mk o
  clear h hu o
  go_enter Try.func51, Try.ntmps51
  go_wp2
  go_loopg [1] j (fun m a1 wr => UpGo w X g cap L m a1 wr)
  case atStart => exact HST.out
  case round =>
    clear HST
    obtain ⟨q, K, hjm, rfl, hu, hP, hp, hx⟩ := hrel
    have hKl : K.length ≤ 1000000 := by rw [hp.length_eq]; exact hL
    have hq := hu.1
    have HP := hid_mk hP
    have HX := hid_mk hx
    have HPM := hid_mk hp
    have HU := hid_mk hu
    clear hP hx hp hu
    by_cases h0 : q = 0
    · subst h0
      go_wp2
      go_end0
      exact ⟨⟨_, rfl⟩, K, HU.out.done (.inl rfl), HP.out, HPM.out, HX.out⟩
    · obtain ⟨i, hi⟩ : ∃ i, i = par q := ⟨_, rfl⟩
      have hiq : i < q := by unfold par at hi; omega
      have hiK : i < K.length := by omega
      have HQ : ((q : Int) - 1).tdiv 2 = (i : Int) := by
        unfold par at hi
        rw [Int.tdiv_eq_ediv_of_nonneg (by omega)]
        omega
      have HI := hid_mk hi
      have hne : ((i : Int) == (q : Int)) = false := by
        rw [beq_eq_false_iff_ne]; omega
      have hm := m_less HP.out.cell
      have HC : Hid (Calls Try.prog 110 #[.slice (some ⟨g, 0, none⟩) K.length cap, .int .i64 (q : Int), .int .i64 (i : Int)] wr fun e w' => e = .returned (.bool (bt K[q] K[i])) ∧ Below wr.heap.size wr w') := pless_any HP.out.row q i hq hiK
      clear hi
      obtain ⟨r, hr⟩ : ∃ r, r = bt K[q] K[i] := ⟨_, rfl⟩
      rw [← hr] at HC
      have HR := hid_mk hr
      clear hr
      go_wp2_with (go_at_call 110; fail)
      refine HC.out.mono ?_
      rintro e w1 ⟨rfl, hb⟩
      have HP1 : Hid (PAt w1 X g cap K) := HP.out.keep hb
      have HX1 : Hid (Kx X.b g w w1) := HX.out.trans (Kx.of_below hb)
      clear hb HC hm
      cases r
      · go_wp2
        go_end0
        refine ⟨⟨_, rfl⟩, K, HU.out.done (.inr ⟨K[q], K[i], List.getElem?_eq_getElem hq, ?_, HR.out.symm⟩), HP1.out, HPM.out, HX1.out⟩
        rw [← HI.out]
        exact List.getElem?_eq_getElem hiK
      · have hm := m_swap HP1.out.cell
        go_wp2_with (go_at_call 111; fail)
        refine (swap_at HP1.out hiK hq).mono ?_
        rintro e w2 ⟨⟨v2, rfl⟩, hP2, hx2⟩
        have HG : Hid (∀ m, i ≤ m → UpGo w X g cap L m (.int .i64 (i : Int)) w2) := fun m hm => by
          have hi := HI.out
          subst hi
          have hb := HR.out.symm
          exact ⟨par q, _, hm, rfl, HU.out.step HO.out (by omega) hiK hb, hP2, (swapL_perm _ _ _ _ _).trans HPM.out, HX1.out.trans hx2⟩
        clear hP2 hx2 hm
        go_wp2
        go_roundg i
        case measure => omega
        case rel => exact HG.out _ (Nat.le_refl _)
end Go.Proofs.Ytlnpiadjnjdfiaa.E
