/- EpochActs: what is looked at behind each act. -/
import Derived.Test.YtlnpiadjnjdfiaaEAn
namespace Go.Proofs.Ytlnpiadjnjdfiaa.E
open Go.RowKit
set_option maxRecDepth 100000

theorem IsAt.stay {w w' : World} {rb : Nat} {u : Value} {xs : List Int} (h : IsAt w u xs) (hk : Kx rb rb w w') (hu : ∀ g, u.ownBlock = some g → g ≠ rb) : IsAt w' u xs := by
  obtain ⟨a, c, rfl, h⟩ := h
  exact ⟨a, c, rfl, h.stay (P := fun k => k ≠ rb) hk.size (fun k hl hne => hk.block k hl hne hne) (fun x hx => hu x.block (by rw [hx]; rfl))⟩
/-- What both are like: the same, with what waits. -/
structure AgO (W w : World) (b n rb ab : Nat) (x y : Int) (j : Nat) (now : Int) (S : List Int) (v : Value) (K : List It) (us ul : Value) (L : List It) : Prop where
  ag : Ag W w ⟨b, n, now, S, 0⟩ v K rb now us (S.take n) ul L ab x y
  perm : K.Perm L
  srt : Srt L
  kl : K.length ≤ j
  lo : 1 ≤ now
  hi : now ≤ (j : Int) + 1
structure AcO (W w : World) (b n rb : Nat) (j : Nat) (now : Int) (S : List Int) (v : Value) (K : List It) (us ul : Value) (L : List It) : Prop where
  ac : Ac W w ⟨b, n, now, S, 0⟩ v K rb now us (S.take n) ul L
  perm : K.Perm L
  srt : Srt L
  kl : K.length ≤ j
  lo : 1 ≤ now
  hi : now ≤ (j : Int) + 1
def AcI (W w : World) (b n rb j : Nat) : Prop := ∃ now S v K us ul L, AcO W w b n rb j now S v K us ul L
section
variable {W w w' : World} {b n rb ab j : Nat} {now x y : Int} {S : List Int} {v us ul : Value} {K L : List It}
theorem AgO.S8 (h : AgO W w b n rb ab x y j now S v K us ul L) : S.length = 8 := h.ag.ac.lv.eo.es.bx.len
theorem AgO.n8 (h : AgO W w b n rb ab x y j now S v K us ul L) : n ≤ 8 := h.ag.ac.lv.eo.n8
theorem AgO.ll (h : AgO W w b n rb ab x y j now S v K us ul L) : L.length ≤ j := by have := h.perm.length_eq; have := h.kl; omega
theorem AgO.rl (h : AgO W w b n rb ab x y j now S v K us ul L) : (S.take n).length ≤ 8 := by rw [take_len h.S8 h.n8]; exact h.n8
/-- .. and what Waiting told. -/
structure Aw (W w : World) (b n rb ab : Nat) (x y : Int) (j : Nat) (now : Int) (S : List Int) (v : Value) (K : List It) (us ul : Value) (L : List It) (B : Nat) (u : Value) : Prop where
  o : AgO W w b n rb ab x y j now S v K us ul L
  wt : WAt B w u L
  bB : b < B
  vB : ∀ g, v.ownBlock = some g → g < B
theorem WAt.stay {B : Nat} {u : Value} (h : WAt B w u L) (hk : ∀ g, g < w.heap.size → B ≤ g → w'.heap[g]? = w.heap[g]?) : WAt B w' u L := by
  obtain ⟨a, c, h1, h2, h3⟩ := h
  refine ⟨a, c, h1, h2, fun h0 => ?_⟩
  obtain ⟨g, e, hB, hc⟩ := h3 h0
  refine ⟨g, e, hB, fun i hi => ?_⟩
  obtain ⟨q1, q2⟩ := hc i hi
  have hl : g < w.heap.size := lt_of_cell q1
  have hh := hk g hl hB
  exact ⟨(World.cell?_of_block (a := ⟨g, i * 2, none⟩) hh).trans q1, (World.cell?_of_block (a := ⟨g, i * 2 + 1, none⟩) hh).trans q2⟩
theorem Aw.drew {B : Nat} {u : Value} (h : Aw W w b n rb ab x y j now S v K us ul L B u) : Aw W w.drew b n rb ab x y j now S v K us ul L B u :=
  ⟨⟨h.o.ag.drew, h.o.perm, h.o.srt, h.o.kl, h.o.lo, h.o.hi⟩, h.wt.stay (fun _ _ _ => rfl), h.bB, h.vB⟩
theorem x_wait (h : AgO W w b n rb ab x y j now S v K us ul L) (hj : j ≤ 1000) : Calls Try.prog 22 #[.pointer (some ⟨b, 0, none⟩)] w fun e w' => ∃ u B, e = .returned u ∧ Hid (Aw W w' b n rb ab x y j now S v K us ul L B u) := by
  refine (waiting_any h.ag.ac.lv.eo (by have := h.kl; omega)).mono ?_
  rintro e w' ⟨u, M, he, hp, hs, hw, ho, hk⟩
  have hM : M = L := srt_uniq (hp.trans h.perm) hs h.srt
  subst hM
  exact ⟨u, _, he, ⟨h.ag.ex ho rfl hk, h.perm, h.srt, h.kl, h.lo, h.hi⟩, hw, h.ag.ac.lv.eo.es.bx.lt, fun g e => h.ag.ac.lv.eo.es.lt e⟩
theorem a_now {B : Nat} {u : Value} (h : Aw W w b n rb ab x y j now S v K us ul L B u) : Calls Try.prog 23 #[.pointer (some ⟨b, 0, none⟩)] w fun e w' => e = .returned (.int .i64 now) ∧ w' = w :=
  now_any h.o.ag.ac.lv.eo.es.bx h.o.ag.ac.lv.eo.n1
def minA (n : Nat) (S : List Int) (now : Int) : Int := if (leastZ (S.take n)).2 = true then (leastZ (S.take n)).1 else now
theorem a_min {B : Nat} {u : Value} (h : Aw W w b n rb ab x y j now S v K us ul L B u) : Calls Try.prog 24 #[.pointer (some ⟨b, 0, none⟩)] w fun e w' => e = .returned (.int .i64 (minA n S now)) ∧ Hid (Aw W w' b n rb ab x y j now S v K us ul L B u) := by
  refine (min_any h.o.ag.ac.lv.eo).mono ?_
  rintro e w' ⟨he, ho, hk⟩
  exact ⟨he, ⟨h.o.ag.ex ho rfl hk, h.o.perm, h.o.srt, h.o.kl, h.o.lo, h.o.hi⟩, h.wt.stay (fun g hl hB => hk.block g hl (by have := h.bB; show g ≠ b; omega) (fun e => by have := h.vB g e; omega)), h.bB, h.vB⟩
theorem a_rmin {B : Nat} {u : Value} (h : Aw W w b n rb ab x y j now S v K us ul L B u) : Calls Try.prog 25 #[.pointer (some ⟨rb, 0, none⟩)] w fun e w' => e = .returned (.int .i64 (minA n S now)) ∧ w' = w :=
  rmin_any h.o.ag.ac.rs h.o.rl
theorem a_pin {B : Nat} {u : Value} (h : Aw W w b n rb ab x y j now S v K us ul L B u) (i : Int) : Calls Try.prog 26 #[.pointer (some ⟨b, 0, none⟩), .int .i64 i] w fun e w' => e = .returned (.int .i64 (pinZ n S i)) ∧ w' = w :=
  pinned_any h.o.ag.ac.lv.eo.es.bx h.o.ag.ac.lv.eo.n1 h.o.n8 i
theorem a_rpin {B : Nat} {u : Value} (h : Aw W w b n rb ab x y j now S v K us ul L B u) (i : Int) : Calls Try.prog 27 #[.pointer (some ⟨rb, 0, none⟩), .int .i64 i] w fun e w' => e = .returned (.int .i64 (pinZ n S i)) ∧ w' = w := by
  have := rpinned_any h.o.ag.ac.rs h.o.rl i
  rw [pin_take h.o.S8 h.o.n8] at this
  exact this
theorem Aw.cells {B : Nat} {u : Value} (h : Aw W w b n rb ab x y j now S v K us ul L B u) : w.cell? ⟨rb, 0, none⟩ = some (.int .i64 now) ∧ w.cell? ⟨rb, 2, none⟩ = some ul ∧ w.cell? ⟨ab, 1, none⟩ = some (.int .i64 y) := ⟨h.o.ag.ac.rs.cells.1, h.o.ag.ac.rs.cells.2.2.1, h.o.ag.act.2⟩
end
theorem ints_same {w : World} {u v : Value} {xs : List Int} (hu : IsAt w u xs) (hv : IsAt w v xs) : Calls Try.prog 19 #[u, v] w fun e w' => e = .returned (.bool true) ∧ Below w.heap.size w w' :=
  (ints_any hu hv).mono fun e w' hh => ⟨by rw [hh.1]; simp, hh.2⟩
end Go.Proofs.Ytlnpiadjnjdfiaa.E
