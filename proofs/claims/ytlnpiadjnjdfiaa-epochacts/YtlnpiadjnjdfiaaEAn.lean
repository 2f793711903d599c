/- EpochActs: each thing that is done, by both. -/
import Derived.Test.YtlnpiadjnjdfiaaEAm
namespace Go.Proofs.Ytlnpiadjnjdfiaa.E
open Go.RowKit
set_option maxRecDepth 100000

/-- .. and an act that lies apart. -/
structure Ag (W w : World) (X : EX) (v : Value) (K : List It) (rb : Nat) (rnow : Int) (us : Value) (rS : List Int) (ul : Value) (L : List It) (ab : Nat) (x y : Int) : Prop where
  ac : Ac W w X v K rb rnow us rS ul L
  at_ : w.heap[ab]? = some (.cells #[.int .i64 x, .int .i64 y] 29 (0, 0))
  ab1 : ab ≠ X.b
  ab2 : ab ≠ rb
  ab3 : v.ownBlock ≠ some ab
section
variable {W w w' : World} {X X' : EX} {v v' us ul us' ul' : Value} {K K' L L' : List It} {rb ab : Nat} {rnow rnow' x y : Int} {rS rS' : List Int}
theorem Ag.lt (h : Ag W w X v K rb rnow us rS ul L ab x y) : ab < w.heap.size := (Array.getElem?_eq_some_iff.1 h.at_).1
theorem Ag.act (h : Ag W w X v K rb rnow us rS ul L ab x y) : w.cell? ⟨ab, 0, none⟩ = some (.int .i64 x) ∧ w.cell? ⟨ab, 1, none⟩ = some (.int .i64 y) := by
  have := h.at_
  exact ⟨by simp [World.cell?, this], by simp [World.cell?, this]⟩
theorem Ag.start (h : Ac W w X v K rb rnow us rS ul L) : Ag W (w.alloc (.cells #[.int .i64 x, .int .i64 y] 29)) X v K rb rnow us rS ul L w.heap.size x y :=
  ⟨h.keep ((Below.refl _ _).alloc (Nat.le_refl _) _), heap_alloc_last w _, by have := h.lv.eo.es.bx.lt; omega, by have := h.rs.lt; omega, fun e => by have := h.lv.eo.es.lt e; omega⟩
theorem Ag.ex (h : Ag W w X v K rb rnow us rS ul L ab x y) (he : EO w' X' v' K') (hb : X'.b = X.b) (hk : Kv X.b v w v' w') : Ag W w' X' v' K' rb rnow us rS ul L ab x y := by
  have hl := h.lt
  refine ⟨h.ac.ex he hb hk, (hk.block ab hl h.ab1 h.ab3).trans h.at_, by rw [hb]; exact h.ab1, h.ab2, fun e => ?_⟩
  rcases hk.own ab e with e' | e'
  · exact h.ab3 e'
  · omega
theorem Ag.er (h : Ag W w X v K rb rnow us rS ul L ab x y) (hr : RS w' rb rnow' us' rS' ul' L') (hk : Kx rb rb w w') (hus : us' = us ∨ ∀ g, us'.ownBlock = some g → w.heap.size ≤ g) (hul : ul' = ul ∨ ∀ g, ul'.ownBlock = some g → w.heap.size ≤ g) : Ag W w' X v K rb rnow' us' rS' ul' L' ab x y :=
  ⟨h.ac.er hr hk hus hul, (hk.block ab h.lt h.ab2 h.ab2).trans h.at_, h.ab1, h.ab2, h.ab3⟩
theorem Ag.keep (h : Ag W w X v K rb rnow us rS ul L ab x y) (hb : Below w.heap.size w w') : Ag W w' X v K rb rnow us rS ul L ab x y :=
  ⟨h.ac.keep hb, (hb.block ab h.lt).trans h.at_, h.ab1, h.ab2, h.ab3⟩
theorem Ag.drew (h : Ag W w X v K rb rnow us rS ul L ab x y) : Ag W w.drew X v K rb rnow us rS ul L ab x y := h.keep (Below.refl _ _).drew
end
section
variable {W w : World} {b n rb ab : Nat} {now rnow x y : Int} {S rS : List Int} {v us ul : Value} {K L : List It}
local notation "XX" => EX.mk b n now S 0
theorem x_pub (h : Ag W w ⟨b, n, now, S, 0⟩ v K rb rnow us rS ul L ab x y) (h0 : 0 ≤ now) (h1 : now ≤ 1000000) : Calls Try.prog 11 #[.pointer (some ⟨b, 0, none⟩)] w fun e w' => e = .returned (.int .i64 (now + 1)) ∧ Hid (Ag W w' ⟨b, n, now + 1, S, 0⟩ v K rb rnow us rS ul L ab x y) :=
  (publish_any h.ac.lv.eo h0 h1).mono fun _ _ hh => ⟨hh.1, h.ex hh.2.1 rfl hh.2.2⟩
theorem r_pub {X : EX} (h : Ag W w X v K rb rnow us rS ul L ab x y) (h0 : 0 ≤ rnow) (h1 : rnow ≤ 1000000) : Calls Try.prog 12 #[.pointer (some ⟨rb, 0, none⟩)] w fun e w' => e = .returned (.int .i64 (rnow + 1)) ∧ Hid (Ag W w' X v K rb (rnow + 1) us rS ul L ab x y) :=
  (rpublish_any h.ac.rs h0 h1).mono fun _ _ hh => ⟨hh.1, h.er hh.2.1 hh.2.2 (.inl rfl) (.inl rfl)⟩
theorem x_pin (h : Ag W w ⟨b, n, now, S, 0⟩ v K rb rnow us rS ul L ab x y) : Calls Try.prog 13 #[.pointer (some ⟨b, 0, none⟩)] w fun e w' => (∃ k, FreeAt n S k ∧ e = .returned (.tuple #[.int .i64 (k : Int), .int .i64 0]) ∧ Hid (Ag W w' ⟨b, n, now, S.set k now, 0⟩ v K rb rnow us rS ul L ab x y)) ∨ (NoFree n S ∧ e = .returned (.tuple #[.int .i64 0, .int .i64 6]) ∧ Hid (Ag W w' ⟨b, n, now, S, 0⟩ v K rb rnow us rS ul L ab x y)) := by
  refine (pin_any h.ac.lv.eo).mono ?_
  rintro e w' ⟨hk, ⟨k, hf, he, ho⟩ | ⟨hf, he, ho⟩⟩
  · exact .inl ⟨k, hf, he, h.ex ho rfl hk⟩
  · exact .inr ⟨hf, he, h.ex ho rfl hk⟩
theorem r_pin {X : EX} (h : Ag W w X v K rb now us (S.take n) ul L ab x y) (hS : S.length = 8) (hn : n ≤ 8) {k : Nat} (hf : FreeAt n S k) : Calls Try.prog 14 #[.pointer (some ⟨rb, 0, none⟩)] w fun e w' => e = .returned (.tuple #[.int .i64 (k : Int), .int .i64 0]) ∧ ∃ u, Hid (Ag W w' X v K rb now u ((S.set k now).take n) ul L ab x y) := by
  refine (rpin_first h.ac.rs (by rw [take_len hS hn]; exact hn) (k := k) (by rw [take_len hS hn]; exact free_take hf)).mono ?_
  rintro e w' ⟨he, u, hr, hk, hu⟩
  rw [← take_set] at hr
  exact ⟨he, u, h.er hr hk (.inr hu) (.inl rfl)⟩
theorem r_full {X : EX} (h : Ag W w X v K rb now us (S.take n) ul L ab x y) (hS : S.length = 8) (hn : n ≤ 8) (hf : NoFree n S) : Calls Try.prog 14 #[.pointer (some ⟨rb, 0, none⟩)] w fun e w' => e = .returned (.tuple #[.int .i64 0, .int .i64 6]) ∧ Hid (Ag W w' X v K rb now us (S.take n) ul L ab x y) := by
  refine (rpin_full h.ac.rs (by rw [take_len hS hn]; exact hn) (by rw [take_len hS hn]; exact nofree_take hf)).mono ?_
  rintro e w' ⟨he, hw⟩
  rw [hw]
  exact ⟨he, h⟩
def unZ (n : Nat) (S : List Int) (i : Int) : Int := if pinZ n S i = 0 then 3 else 0
def unS (n : Nat) (S : List Int) (i : Int) : List Int := if pinZ n S i = 0 then S else S.set i.toNat 0
theorem x_unpin (h : Ag W w ⟨b, n, now, S, 0⟩ v K rb rnow us rS ul L ab x y) (i : Int) : Calls Try.prog 15 #[.pointer (some ⟨b, 0, none⟩), .int .i64 i] w fun e w' => e = .returned (.int .i64 (unZ n S i)) ∧ Hid (Ag W w' ⟨b, n, now, unS n S i, 0⟩ v K rb rnow us rS ul L ab x y) := by
  refine (unpin_any h.ac.lv.eo i).mono ?_
  rintro e w' ⟨hk, hh⟩
  unfold unZ unS
  dsimp only at hh
  split at hh
  · rename_i hz
    rw [if_pos hz, if_pos hz]
    exact ⟨hh.1, h.ex hh.2 rfl hk⟩
  · rename_i hz
    rw [if_neg hz, if_neg hz]
    exact ⟨hh.1, h.ex hh.2 rfl hk⟩
theorem r_unpin {X : EX} (h : Ag W w X v K rb now us (S.take n) ul L ab x y) (hS : S.length = 8) (hn : n ≤ 8) (i : Int) : Calls Try.prog 16 #[.pointer (some ⟨rb, 0, none⟩), .int .i64 i] w fun e w' => e = .returned (.int .i64 (unZ n S i)) ∧ ∃ u, Hid (Ag W w' X v K rb now u ((unS n S i).take n) ul L ab x y) := by
  refine (runpin_any h.ac.rs (by rw [take_len hS hn]; exact hn) i).mono ?_
  intro e w' hh
  unfold RUnp at hh
  rw [pin_take hS hn] at hh
  unfold unZ unS
  split at hh
  · rename_i hz
    rw [if_pos hz, if_pos hz]
    rw [hh.2.2]
    exact ⟨hh.1, us, h⟩
  · rename_i hz
    rw [if_neg hz, if_neg hz]
    obtain ⟨he, u, hr, hk, hu⟩ := hh
    rw [← take_set] at hr
    exact ⟨he, u, h.er hr hk (.inr hu) (.inl rfl)⟩
theorem r_ret {X : EX} (h : Ag W w X v K rb now us rS ul L ab x y) (hL : L.length ≤ 100000) (hs : Srt L) (id : Int) : Calls Try.prog 17 #[.pointer (some ⟨rb, 0, none⟩), .int .i64 id] w fun e w' => (∃ v, e = .returned v) ∧ ∃ u L', Hid (Ag W w' X v K rb now us rS u L' ab x y) ∧ L'.Perm (L ++ [(id, now)]) ∧ Srt L' := by
  refine (rretire_any h.ac.rs hL id).mono ?_
  rintro e w' ⟨he, u, L', hr, hp, hs', hk, hu⟩
  exact ⟨he, u, L', h.er hr hk (.inl rfl) (.inr hu), hp, hs' hs⟩
theorem x_ret (h : Ag W w ⟨b, n, now, S, 0⟩ v K rb rnow us rS ul L ab x y) (hK : K.length ≤ 999999) (id : Int) : Calls Try.prog 18 #[.pointer (some ⟨b, 0, none⟩), .int .i64 id] w fun e w' => e = .returned (.int .i64 0) ∧ ∃ v' K', Hid (Ag W w' ⟨b, n, now, S, 0⟩ v' K' rb rnow us rS ul L ab x y) ∧ K'.Perm (K ++ [(id, now)]) := by
  refine (retire_any h.ac.lv.eo hK id).mono ?_
  rintro e w' ⟨he, v', K', ho, hp, hk⟩
  exact ⟨he, v', K', h.ex ho rfl hk, hp⟩
theorem leastTake (S : List Int) : leastZ S = leastZ S := rfl
def RecP (W : World) (b n : Nat) (now : Int) (S : List Int) (K : List It) (rb : Nat) (rnow : Int) (us : Value) (rS : List Int) (ul : Value) (L : List It) (ab : Nat) (x y : Int) (e : Ending) (w' : World) : Prop := ∃ u v' K', e = .returned u ∧ Hid (Ag W w' ⟨b, n, now, S, 0⟩ v' K' rb rnow us rS ul L ab x y) ∧ IsAt w' u ((L.filter (okB (leastZ (S.take n)))).map Prod.fst) ∧ (∀ g, u.ownBlock = some g → g ≠ rb) ∧ K'.Perm (L.filter fun r => !okB (leastZ (S.take n)) r) ∧ K'.length ≤ K.length
theorem x_rec (h : Ag W w ⟨b, n, now, S, 0⟩ v K rb rnow us rS ul L ab x y) (hK : K.length ≤ 100000) (hp : K.Perm L) (hs : Srt L) : Calls Try.prog 20 #[.pointer (some ⟨b, 0, none⟩)] w (RecP W b n now S K rb rnow us rS ul L ab x y) := by
  refine (reclaim_any h.ac.lv.eo hK).mono ?_
  rintro e w' ⟨u, he, v', K', R, hu, ho, hp', hok, hno, hsr, hk, hd⟩
  obtain ⟨e1, e2⟩ := ids_eq (hp'.trans hp) hs hok hno hsr
  have hlen : K'.length ≤ K.length := by
    have := hp'.length_eq
    rw [List.length_append] at this
    omega
  refine ⟨u, v', K', he, h.ex ho rfl hk, ?_, fun g e => ?_, e2, hlen⟩
  · have := IsAt.of_owns hu
    rw [e1] at this
    exact this
  · have := (hu.lt g e).1
    have := h.ac.rs.lt
    omega
def RecR (W : World) (X : EX) (v : Value) (K : List It) (rb : Nat) (rnow : Int) (us : Value) (rS : List Int) (L : List It) (ab : Nat) (x y : Int) (e : Ending) (w' : World) : Prop := ∃ u ul', e = .returned u ∧ Hid (Ag W w' X v K rb rnow us rS ul' (L.filter fun r => !okB (leastZ rS) r) ab x y) ∧ IsAt w' u ((L.filter (okB (leastZ rS))).map Prod.fst)
theorem r_rec {X : EX} (h : Ag W w X v K rb rnow us rS ul L ab x y) (h8 : rS.length ≤ 8) (hL : L.length ≤ 100000) : Calls Try.prog 21 #[.pointer (some ⟨rb, 0, none⟩)] w fun e w' => RecR W X v K rb rnow us rS L ab x y e w' ∧ Kx rb rb w w' := by
  refine (rreclaim_any h.ac.rs h8 hL).mono ?_
  rintro e w' ⟨u, u4, he, hu, hr, hk, hu4⟩
  exact ⟨⟨u, u4, he, h.er hr hk (.inl rfl) (.inr hu4), IsAt.of_owns hu⟩, hk⟩
end
end Go.Proofs.Ytlnpiadjnjdfiaa.E
