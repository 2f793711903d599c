/- Trees of values, and the slices that hold them. The reader of selectors: what stands ahead; values are left behind. The reader of selectors: what signs stand for. The reader of selectors: simple selectors in new memory. Selectors as trees, and the slices that hold them. -/
import Derived.Test.YtdibldcnklgcjaaGreatDoorRows
import Derived.WalkKit
import Derived.WalkLawsBesides
import Derived.IntWalk
import Derived.Deep.MidRow
import Derived.BigQuiet
import Derived.Deep.QuietTactic
import Derived.Below
import Derived.Deep.WholeRow
import Derived.Deep.DeepCutAuto
import Derived.Deep.RegionHeld3
import Derived.Handy
import Derived.OwnWalk
namespace Go.Proofs.YtdibldcnklgcjaaGreatDoor.L
open Go.RowKit
set_option maxRecDepth 100000

/-- A fact that the walk does not look into. -/
def Hid (p : Prop) : Prop := p
theorem hid_mk {p : Prop} (h : p) : Hid p := h
theorem Hid.out {p : Prop} (h : Hid p) : p := h
theorem cellAt {w : World} {b : Nat} {cs : Array Value} {t : TypeId} {fr : Nat × Nat} (h : w.heap[b]? = some (.cells cs t fr)) (i : Nat) : w.cell? ⟨b, i, none⟩ = cs[i]? := by
  simp [World.cell?, h]
theorem set_at {w : World} {b : Nat} {cs : Array Value} {t : TypeId} (i : Nat) (v : Value) (fr : Nat × Nat) (h : w.heap[b]? = some (.cells cs t fr)) : (w.setCell ⟨b, i, none⟩ v).heap[b]? = some (.cells (cs.setIfInBounds i v) t fr) := by
  simp only [World.setCell, Array.getElem?_modify, h, if_pos, Option.map_some, Option.isSome_none, Bool.false_eq_true, if_false]
/-- All blocks but one are as they were. -/
structure KeepX (b : Nat) (w w' : World) : Prop where
  os : w'.os = w.os
  tape : w'.tape = w.tape
  output : w'.output = w.output
  size : w.heap.size ≤ w'.heap.size
  block : ∀ k, k < w.heap.size → k ≠ b → w'.heap[k]? = w.heap[k]?
theorem KeepX.of {b : Nat} {w w' : World} (h : Below w.heap.size w w') : KeepX b w w' := ⟨h.os, h.tape, h.output, h.size, fun k hk _ => h.block k hk⟩
theorem KeepX.trans {b : Nat} {w w1 w2 : World} (h : KeepX b w w1) (k : KeepX b w1 w2) : KeepX b w w2 :=
  ⟨k.os.trans h.os, k.tape.trans h.tape, k.output.trans h.output, Nat.le_trans h.size k.size, fun j hj hn => (k.block j (Nat.lt_of_lt_of_le hj h.size) hn).trans (h.block j hj hn)⟩
theorem KeepX.below {b B : Nat} {w w' : World} (h : KeepX b w w') (hb : B ≤ b) (hB : B ≤ w.heap.size) : Below B w w' :=
  ⟨h.os, h.tape, h.output, h.size, fun k hk => h.block k (Nat.lt_of_lt_of_le hk hB) (by omega)⟩

/-- A token's five fields. -/
structure T5 where
  k : Int
  tx : ByteArray
  un : ByteArray
  wh : Bool
  fl : Bool
/-- A value: a token, and what is within. -/
inductive V where
  | mk (t : T5) (kids : List V)
def V.tok : V → T5 | .mk t _ => t
def V.kids : V → List V | .mk _ l => l
def t5Cells (t : T5) : List Value := [.int .i64 t.k, .string t.tx, .string t.un, .bool t.wh, .bool t.fl]
def vCells (t : T5) (kid : Value) : List Value := [.int .i64 t.k, .string t.tx, .string t.un, .bool t.wh, .bool t.fl, kid]

/-- The slice holds the values: cell by cell, and what is within each likewise; all blocks are among P. -/
inductive VsAt (P : Nat → Prop) (W : World) : Value → List V → Prop
  | mk (a : Option Addr) (cap : Nat) (vs : List V) (b off : Nat) (kv : Nat → Value) (h1 : vs.length ≤ cap) (h2 : cap ≤ 9223372036854775807)
      (ha : 0 < vs.length → a = some ⟨b, off, none⟩ ∧ b < W.heap.size ∧ P b)
      (hc : ∀ i (h : i < vs.length), ∀ j y, (vCells (vs[i]'h).tok (kv i))[j]? = some y → W.cell? ⟨b, off + i * 6 + j, none⟩ = some y)
      (hr : ∀ i (h : i < vs.length), VsAt P W (kv i) (vs[i]'h).kids) : VsAt P W (.slice a vs.length cap) vs
theorem cell_of_heap {W W' : World} {b o : Nat} (h : W'.heap[b]? = W.heap[b]?) : W'.cell? ⟨b, o, none⟩ = W.cell? ⟨b, o, none⟩ := by
  simp only [World.cell?, h]
/-- Where P's blocks stay, the tree stays. -/
theorem VsAt.stay {P : Nat → Prop} {W W' : World} (hs : W.heap.size ≤ W'.heap.size) (hk : ∀ b, P b → b < W.heap.size → W'.heap[b]? = W.heap[b]?) {v : Value} {vs : List V} (h : VsAt P W v vs) : VsAt P W' v vs := by
  induction h with
  | mk a cap vs b off kv h1 h2 ha hc hr ih =>
    refine .mk a cap vs b off kv h1 h2 (fun h0 => ⟨(ha h0).1, Nat.lt_of_lt_of_le (ha h0).2.1 hs, (ha h0).2.2⟩) (fun i h j y hy => ?_) ih
    obtain ⟨_, h3, h4⟩ := ha (by omega)
    exact (cell_of_heap (hk b h4 h3)).trans (hc i h j y hy)
theorem VsAt.keep {P : Nat → Prop} {W W' : World} (hb : Below W.heap.size W W') {v : Value} {vs : List V} (h : VsAt P W v vs) : VsAt P W' v vs := h.stay hb.size (fun b _ hlt => hb.block b hlt)
theorem VsAt.wider {P Q : Nat → Prop} {W : World} (hq : ∀ b, P b → b < W.heap.size → Q b) {v : Value} {vs : List V} (h : VsAt P W v vs) : VsAt Q W v vs := by
  induction h with
  | mk a cap vs b off kv h1 h2 ha hc hr ih => exact .mk a cap vs b off kv h1 h2 (fun h0 => ⟨(ha h0).1, (ha h0).2.1, hq b (ha h0).2.2 (ha h0).2.1⟩) hc ih
theorem VsAt.nil (P : Nat → Prop) (W : World) : VsAt P W (.slice none 0 0) [] :=
  .mk none 0 [] 0 0 (fun _ => .slice none 0 0) (Nat.le_refl _) (by decide) (fun h => absurd h (by simp)) (fun i h => absurd h (by simp)) (fun i h => absurd h (by simp))
theorem VsAt.slice {P : Nat → Prop} {W : World} {v : Value} {vs : List V} (h : VsAt P W v vs) : ∃ a cap, v = .slice a vs.length cap ∧ vs.length ≤ cap ∧ cap ≤ 9223372036854775807 := by
  cases h with
  | mk a cap vs b off kv h1 h2 ha hc hr => exact ⟨a, cap, rfl, h1, h2⟩
/-- One by one. -/
theorem VsAt.cells {P : Nat → Prop} {W : World} {a : Option Addr} {n cap : Nat} {vs : List V} (h : VsAt P W (.slice a n cap) vs) : n = vs.length ∧ vs.length ≤ cap ∧ cap ≤ 9223372036854775807 ∧
    ∀ i (hi : i < vs.length), ∃ b off kv, a = some ⟨b, off, none⟩ ∧ b < W.heap.size ∧ (∀ j y, (vCells (vs[i]'hi).tok kv)[j]? = some y → W.cell? ⟨b, off + i * 6 + j, none⟩ = some y) ∧ VsAt P W kv (vs[i]'hi).kids := by
  generalize hv : Value.slice a n cap = v at h
  cases h with
  | mk a' cap' vs b off kv h1 h2 ha hc hr =>
    cases hv
    exact ⟨rfl, h1, h2, fun i hi => ⟨b, off, kv i, (ha (by omega)).1, (ha (by omega)).2.1, hc i hi, hr i hi⟩⟩
/-- From k on. -/
theorem VsAt.drop {P : Nat → Prop} {W : World} {a : Option Addr} {n cap : Nat} {vs : List V} (h : VsAt P W (.slice a n cap) vs) (k : Nat) (hk : k ≤ vs.length) (a' : Option Addr) (ha' : k < vs.length → ∃ b off, a = some ⟨b, off, none⟩ ∧ a' = some ⟨b, off + k * 6, none⟩) : VsAt P W (.slice a' (n - k) (cap - k)) (vs.drop k) := by
  generalize hv : Value.slice a n cap = v at h
  cases h with
  | mk a0 cap0 vs b off kv h1 h2 ha hc hr =>
    cases hv
    have hl : (vs.drop k).length = vs.length - k := List.length_drop
    have hget : ∀ i (h : i < (vs.drop k).length), (vs.drop k)[i]'h = vs[k + i]'(by omega) := fun i h => List.getElem_drop ..
    have key := VsAt.mk (P := P) (W := W) a' (cap - k) (vs.drop k) b (off + k * 6) (fun i => kv (k + i)) (by omega) (by omega)
      (fun h0 => by
        obtain ⟨b', off', e1, e2⟩ := ha' (by omega)
        obtain ⟨q1, q2, q3⟩ := ha (by omega)
        rw [e1] at q1
        cases q1
        exact ⟨e2, q2, q3⟩)
      (fun i h j y hy => by
        rw [hget i h] at hy
        have := hc (k + i) (by omega) j y hy
        rw [show off + k * 6 + i * 6 + j = off + (k + i) * 6 + j by omega]
        exact this)
      (fun i h => by
        rw [hget i h]
        exact hr (k + i) (by omega))
    rw [hl] at key
    exact key
theorem VsAt.take {P : Nat → Prop} {W : World} {a : Option Addr} {n cap : Nat} {vs : List V} (h : VsAt P W (.slice a n cap) vs) (k : Nat) (hk : k ≤ vs.length) : VsAt P W (.slice a k cap) (vs.take k) := by
  generalize hv : Value.slice a n cap = v at h
  cases h with
  | mk a0 cap0 vs b off kv h1 h2 ha hc hr =>
    cases hv
    have hl : (vs.take k).length = k := by rw [List.length_take]; omega
    have hget : ∀ i (h : i < (vs.take k).length), (vs.take k)[i]'h = vs[i]'(by omega) := fun i h => List.getElem_take ..
    have key := VsAt.mk (P := P) (W := W) a cap (vs.take k) b off kv (by omega) (by omega) (fun h0 => ha (by omega))
      (fun i h j y hy => by
        rw [hget i h] at hy
        exact hc i (by omega) j y hy)
      (fun i h => by
        rw [hget i h]
        exact hr i (by omega))
    rw [hl] at key
    exact key
/-- A row of one's own, with what is within each. -/
theorem VsAt.own {T : TypeId} {P : Nat → Prop} {W : World} {B : Nat} {v : Value} {vs : List V} {kv : Nat → Value} {cs : List Value} (h : W.ownsRow B T 6 v vs.length cs) (hP : ∀ g, v.ownBlock = some g → P g)
    (hcs : ∀ i (hi : i < vs.length), ∀ j y, (vCells (vs[i]'hi).tok (kv i))[j]? = some y → cs[i * 6 + j]? = some y) (hr : ∀ i (hi : i < vs.length), VsAt P W (kv i) (vs[i]'hi).kids) : VsAt P W v vs := by
  obtain ⟨hl, h⟩ := h
  rcases h with ⟨rfl, hn⟩ | ⟨g, cap, cur, rfl, _, hg, hnc, hcm, hsz, hx⟩
  · have hvs : vs = [] := List.length_eq_zero_iff.1 hn
    subst hvs
    exact VsAt.nil P W
  · refine .mk _ cap vs g 0 kv hnc hcm (fun _ => ⟨rfl, (Array.getElem?_eq_some_iff.1 hg).1, hP g rfl⟩) (fun i hi j y hy => ?_) hr
    have h1 := hcs i hi j y hy
    have hlt : i * 6 + j < vs.length * 6 := by
      have := (List.getElem?_eq_some_iff.1 h1).1
      omega
    rw [← hx, List.getElem?_take_of_lt hlt] at h1
    rw [Nat.zero_add]
    simp only [World.cell?, hg]
    simpa using h1

end Go.Proofs.YtdibldcnklgcjaaGreatDoor.L
namespace Go.Proofs.YtdibldcnklgcjaaGreatDoor.L
open Go.RowKit
set_option maxRecDepth 100000

/-- Does a value of that kind stand there? -/
def ahd (vs : List V) (i : Nat) (k : Int) : Bool := match vs[i]? with
  | some v => v.tok.k == k
  | none => false
/-- Does that Delim stand there? -/
def dlm (vs : List V) (i : Nat) (s : ByteArray) : Bool := match vs[i]? with
  | some v => v.tok.k == 9 && (v.tok.tx.toList == s.toList)
  | none => false
/-- A reader in a block of its own, in which none of its values lie. -/
structure Rd (lo : Nat) (W0 : World) (b : Nat) (kids : Value) (vs : List V) (W : World) : Prop where
  at' : ∃ rest, W.heap[b]? = some (.cells #[rest, kids] 63 (0, 0)) ∧ VsAt (· < min lo b) W rest vs
  keep : KeepX b W0 W
theorem Rd.from {W0 W W' : World} {lo b : Nat} {kids k2 : Value} {vs us : List V} (h : Rd lo W0 b kids vs W) (k : Rd lo W b k2 us W') : Rd lo W0 b k2 us W' := ⟨k.at', h.keep.trans k.keep⟩
theorem Rd.self {W0 W : World} {lo b : Nat} {kids : Value} {vs : List V} (h : Rd lo W0 b kids vs W) : Rd lo W b kids vs W := ⟨h.at', KeepX.of (Below.refl _ _)⟩
theorem Rd.lt {W0 W : World} {lo b : Nat} {kids : Value} {vs : List V} (h : Rd lo W0 b kids vs W) : b < W.heap.size := by
  obtain ⟨r, h1, _⟩ := h.at'
  exact (Array.getElem?_eq_some_iff.1 h1).1
theorem Rd.then {W0 W W' : World} {lo b : Nat} {kids : Value} {vs : List V} (h : Rd lo W0 b kids vs W) (hb : Below W.heap.size W W') : Rd lo W0 b kids vs W' := by
  obtain ⟨r, h1, h2⟩ := h.at'
  exact ⟨⟨r, (hb.block b h.lt).trans h1, h2.keep hb⟩, h.keep.trans (KeepX.of hb)⟩

/-- What a look at the reader sees. -/
theorem Rd.see {W0 W : World} {lo b : Nat} {kids : Value} {vs : List V} (h : Rd lo W0 b kids vs W) : ∃ a n cap, n = vs.length ∧ n ≤ cap ∧ cap ≤ 9223372036854775807 ∧ W.heap[b]? = some (.cells #[.slice a n cap, kids] 63 (0, 0)) ∧ VsAt (· < min lo b) W (.slice a n cap) vs ∧
    ∀ i v, vs[i]? = some v → i < n ∧ ∃ g off kv, a = some ⟨g, off, none⟩ ∧ W.cell? ⟨g, off + i * 6, none⟩ = some (.int .i64 v.tok.k) ∧ W.cell? ⟨g, off + i * 6 + 1, none⟩ = some (.string v.tok.tx) ∧ W.cell? ⟨g, off + i * 6 + 4, none⟩ = some (.bool v.tok.fl) ∧ W.cell? ⟨g, off + i * 6 + 5, none⟩ = some kv ∧ VsAt (· < min lo b) W kv v.kids := by
  obtain ⟨rest, h1, h2⟩ := h.at'
  obtain ⟨a, cap, rfl, hc1, hc2⟩ := h2.slice
  refine ⟨a, vs.length, cap, rfl, hc1, hc2, h1, h2, fun i v hv => ?_⟩
  obtain ⟨hl, hv⟩ := List.getElem?_eq_some_iff.1 hv
  subst hv
  obtain ⟨_, _, _, hcl⟩ := h2.cells
  obtain ⟨g, off, kv, rfl, _, hcc, hk⟩ := hcl i hl
  exact ⟨hl, g, off, kv, rfl, hcc 0 _ rfl, hcc 1 _ rfl, hcc 4 _ rfl, hcc 5 _ rfl, hk⟩

set_option maxHeartbeats 1000000 in
theorem ahead_any {W0 W : World} {lo b : Nat} {kids : Value} {vs : List V} (h : Rd lo W0 b kids vs W) (i : Nat) (k : Int) :
    Calls Tryz.prog 37 #[.pointer (some ⟨b, 0, none⟩), .int .i64 (i : Int), .int .i64 k] W fun e w' => e = .returned (.bool (ahd vs i k)) ∧ w' = W := by
  obtain ⟨a, n, cap, hn, hc1, hc2, h1, _, hs⟩ := h.see
  have c0 : W.cell? ⟨b, 0, none⟩ = some (.slice a n cap) := cellAt h1 0
  cases hv : vs[i]? with
  | some v =>
    obtain ⟨hl, g, off, kv, rfl, q0, _⟩ := hs i v hv
    have HE : Hid (ahd vs i k = (v.tok.k == k)) := by rw [Hid, ahd, hv]
    have hd1 : decide ((i : Int) < (n : Int)) = true := decide_eq_true (by omega)
    rw [HE.out]
    clear h h1 hs hv hn HE
    generalize v.tok.k = kk at *
    go_enter Tryz.func37, Tryz.ntmps37
    go_wp2
    go_ret
    exact ⟨rfl, rfl⟩
  | none =>
    have HE : Hid (ahd vs i k = false) := by rw [Hid, ahd, hv]
    have hd1 : decide ((i : Int) < (n : Int)) = false := decide_eq_false (by have := List.getElem?_eq_none_iff.1 hv; omega)
    have hd2 : ¬ (i : Int) < (n : Int) := by have := List.getElem?_eq_none_iff.1 hv; omega
    rw [HE.out]
    clear h h1 hs hv hn HE
    go_enter Tryz.func37, Tryz.ntmps37
    go_wp2
    go_ret
    exact ⟨rfl, rfl⟩

set_option maxHeartbeats 1000000 in
theorem skip_any {W : World} {lo b : Nat} {kids : Value} {vs : List V} (h : Rd lo W b kids vs W) (n : Nat) (hn : n ≤ vs.length) :
    Calls Tryz.prog 38 #[.pointer (some ⟨b, 0, none⟩), .int .i64 (n : Int)] W fun e w' => e = .returned (.tuple #[]) ∧ Rd lo W b kids (vs.drop n) w' := by
  obtain ⟨a, m, cap, hm, hc1, hc2, h1, h2, hs⟩ := h.see
  have c0 : W.cell? ⟨b, 0, none⟩ = some (.slice a m cap) := cellAt h1 0
  have f0 : W.frozen? ⟨b, 0, none⟩ = false := by simp [World.frozen?, h1]
  have hle : n ≤ m := by omega
  have HH := hid_mk h1
  have HV := hid_mk h2
  have HM := hid_mk hm
  have HS : Hid (∀ a', (n < vs.length → ∃ g off, a = some ⟨g, off, none⟩ ∧ a' = some ⟨g, off + n * 6, none⟩) → ∀ W', KeepX b W W' → W'.heap[b]? = some (.cells #[.slice a' (m - n) (cap - n), kids] 63 (0, 0)) → Rd lo W b kids (vs.drop n) W') := fun a' ha' W' hk hh =>
    ⟨⟨_, hh, (h2.drop n hn a' ha').stay hk.size (fun j hj hlt => hk.block j hlt (by omega))⟩, hk⟩
  have HA : Hid (n < vs.length → ∃ g off, a = some ⟨g, off, none⟩) := fun hl => by
    obtain ⟨_, g, off, _, e, _⟩ := hs n _ (List.getElem?_eq_getElem hl)
    exact ⟨g, off, e⟩
  have HK : Hid (∀ v, KeepX b W (W.setCell ⟨b, 0, none⟩ v)) := fun v => ⟨rfl, rfl, rfl, by simp, fun k _ hk => Below.heap_setCell _ _ _ _ hk⟩
  clear h h1 h2 hs hm hn
  go_enter Tryz.func38, Tryz.ntmps38
  go_wp2
  · refine bodyPost_end (v := .tuple #[]) (by simp [results, Tryz.results38, go_sem]) rfl ⟨rfl, HS.out a (fun hl => by have := HM.out; omega) _ (HK.out _) ?_⟩
    rw [set_at 0 _ _ HH.out]
    simp
    omega
  · refine bodyPost_end (v := .tuple #[]) (by simp [results, Tryz.results38, go_sem]) rfl ⟨rfl, HS.out (Option.map (fun x => x.add (n * 6)) a) (fun hl => ?_) _ (HK.out _) ?_⟩
    · obtain ⟨g, off, e⟩ := HA.out hl
      exact ⟨g, off, e, by simp [e, Addr.add]⟩
    · rw [set_at 0 _ _ HH.out]
      rfl

set_option maxHeartbeats 1000000 in
theorem delim_any {W0 W : World} {lo b : Nat} {kids : Value} {vs : List V} (h : Rd lo W0 b kids vs W) (i : Nat) (s : ByteArray) :
    Calls Tryz.prog 101 #[.pointer (some ⟨b, 0, none⟩), .int .i64 (i : Int), .string s] W fun e w' => e = .returned (.bool (dlm vs i s)) ∧ w' = W := by
  have ha := ahead_any h i 9
  obtain ⟨a, n, cap, hn, hc1, hc2, h1, _, hs⟩ := h.see
  have c0 : W.cell? ⟨b, 0, none⟩ = some (.slice a n cap) := cellAt h1 0
  by_cases hk : ahd vs i 9 = true
  · cases hv : vs[i]? with
    | none => rw [ahd, hv] at hk; cases hk
    | some v =>
      obtain ⟨hl, g, off, kv, rfl, _, q1, _⟩ := hs i v hv
      have hkk : (v.tok.k == 9) = true := by rw [ahd, hv] at hk; exact hk
      have HE : Hid (dlm vs i s = (v.tok.tx.toList == s.toList)) := by rw [Hid, dlm, hv]; simp only [hkk, Bool.true_and]
      rw [HE.out]
      rw [hk] at ha
      clear h h1 hs hv hn HE hk hkk
      generalize v.tok.tx = tx at *
      go_enter Tryz.func101, Tryz.ntmps101
      go_wp2_with (go_at_call 37; fail)
      refine ha.mono ?_
      rintro e w1 ⟨rfl, rfl⟩
      clear ha
      go_wp2
      go_ret
      exact ⟨rfl, rfl⟩
  · have hk2 : ahd vs i 9 = false := by simpa using hk
    have HE : Hid (dlm vs i s = false) := by
      rw [Hid, dlm]
      cases hv : vs[i]? with
      | none => rfl
      | some v =>
        rw [ahd, hv] at hk2
        have : (v.tok.k == 9) = false := hk2
        simp only [this, Bool.false_and]
    rw [HE.out]
    rw [hk2] at ha
    clear h h1 hs hn HE hk hk2
    go_enter Tryz.func101, Tryz.ntmps101
    go_wp2_with (go_at_call 37; fail)
    refine ha.mono ?_
    rintro e w1 ⟨rfl, rfl⟩
    clear ha
    go_wp2
    go_ret
    exact ⟨rfl, rfl⟩

/-- How many values are left to a reader. -/
def restLen (W : World) (b : Nat) : Nat := match W.cell? ⟨b, 0, none⟩ with
  | some (.slice _ n _) => n
  | _ => 0
theorem Rd.len {W0 W : World} {lo b : Nat} {kids : Value} {vs : List V} (h : Rd lo W0 b kids vs W) : restLen W b = vs.length := by
  obtain ⟨a, n, cap, hn, _, _, h1, _⟩ := h.see
  unfold restLen
  rw [cellAt h1 0]
  exact hn
/-- What is left behind Spaces. -/
def spc (vs : List V) : List V := vs.dropWhile fun v => v.tok.k == 13
theorem spc_go {vs : List V} (h : ahd vs 0 13 = true) : spc vs = spc (vs.drop 1) ∧ 0 < vs.length := by
  cases vs with
  | nil => cases h
  | cons v vs =>
    have h' : (v.tok.k == 13) = true := h
    refine ⟨?_, by simp⟩
    unfold spc
    rw [List.dropWhile_cons, if_pos h']
    rfl
theorem spc_end {vs : List V} (h : ahd vs 0 13 = false) : spc vs = vs := by
  cases vs with
  | nil => rfl
  | cons v vs =>
    have h' : (v.tok.k == 13) = false := h
    unfold spc
    rw [List.dropWhile_cons, if_neg (by rw [h']; decide)]

set_option maxHeartbeats 1000000 in
theorem spaces_any {W : World} {lo b : Nat} {kids : Value} {vs : List V} (h : Rd lo W b kids vs W) :
    Calls Tryz.prog 35 #[.pointer (some ⟨b, 0, none⟩)] W fun e w' => e = .returned (.bool (ahd vs 0 13)) ∧ Rd lo W b kids (spc vs) w' := by
  have ha := ahead_any h 0 13
  have HA : Hid (∀ us W', Rd lo W b kids us W' → Calls Tryz.prog 37 #[.pointer (some ⟨b, 0, none⟩), .int .i64 0, .int .i64 13] W' fun e w' => e = .returned (.bool (ahd us 0 13)) ∧ w' = W') := fun us W' h => ahead_any h 0 13
  have HS : Hid (∀ us W', Rd lo W b kids us W' → 0 < us.length → Calls Tryz.prog 38 #[.pointer (some ⟨b, 0, none⟩), .int .i64 1] W' fun e w' => e = .returned (.tuple #[]) ∧ Rd lo W b kids (us.drop 1) w') := fun us W' h hl => (skip_any h.self 1 hl).mono fun e w' q => ⟨q.1, h.from q.2⟩
  have H0 := hid_mk h
  generalize ahd vs 0 13 = was at *
  clear h
  go_enter Tryz.func35, Tryz.ntmps35
  go_wp2_with (go_at_call 37; fail)
  refine ha.mono ?_
  rintro e w1 ⟨rfl, rfl⟩
  clear ha
  go_wp2
  go_loopw [] (fun wq => ∃ us : List V, Hid (spc us = spc vs) ∧ Hid (Rd lo w1 b kids us wq)) (fun wq => restLen wq b)
  case atStart => exact ⟨vs, rfl, H0⟩
  case round =>
    obtain ⟨us, HE, HR⟩ := hrel
    clear H0
    have ha := HA.out us wr HR.out
    have hlen := HR.out.len
    by_cases hs : ahd us 0 13 = true
    · have hg := spc_go hs
      have hk := HS.out us wr HR.out hg.2
      have HE2 : Hid (spc (us.drop 1) = spc vs) := by rw [Hid, ← hg.1]; exact HE.out
      rw [hs] at ha
      have HL := hid_mk hlen
      have HG := hid_mk hg.2
      clear HA HS hs hg HE hlen
      go_wp2_with (go_at_call 37; fail)
      refine ha.mono ?_
      rintro e w2 ⟨rfl, rfl⟩
      clear ha
      go_wp2_with (go_at_call 38; fail)
      refine hk.mono ?_
      rintro e w3 ⟨rfl, hR3⟩
      have HR3 := hid_mk hR3
      clear hk hR3
      go_wp2
      exact ⟨⟨us.drop 1, HE2, HR3⟩, by rw [HR3.out.len, HL.out, List.length_drop]; have := HG.out; omega⟩
    · have hs2 : ahd us 0 13 = false := by simpa using hs
      have HE2 : Hid (us = spc vs) := by rw [Hid, ← HE.out, spc_end hs2]
      rw [hs2] at ha
      clear HA HS hs hs2 HE hlen
      go_wp2_with (go_at_call 37; fail)
      refine ha.mono ?_
      rintro e w2 ⟨rfl, rfl⟩
      clear ha
      go_wp2
      go_ret
      exact ⟨rfl, by rw [← HE2.out]; exact HR.out⟩
end Go.Proofs.YtdibldcnklgcjaaGreatDoor.L
namespace Go.Proofs.YtdibldcnklgcjaaGreatDoor.L
open Go.RowKit
set_option maxRecDepth 100000

/-- What stands in the table of signs. -/
def sgn : List (Int × Int × ByteArray) := [(0, 2, ⟨#[62]⟩), (0, 3, ⟨#[43]⟩), (0, 4, ⟨#[126]⟩), (1, 2, ⟨#[126]⟩), (1, 3, ⟨#[124]⟩), (1, 4, ⟨#[94]⟩), (1, 5, ⟨#[36]⟩), (1, 6, ⟨#[42]⟩), (2, 5, ⟨#[110, 111, 116]⟩), (2, 6, ⟨#[105, 115]⟩), (2, 7, ⟨#[119, 104, 101, 114, 101]⟩), (2, 8, ⟨#[110, 116, 104, 45, 99, 104, 105, 108, 100]⟩), (2, 9, ⟨#[110, 116, 104, 45, 108, 97, 115, 116, 45, 99, 104, 105, 108, 100]⟩), (2, 10, ⟨#[114, 111, 111, 116]⟩), (2, 11, ⟨#[101, 109, 112, 116, 121]⟩)]
def sgnC : List Value := [.int .i64 0, .int .i64 2, .string ⟨#[62]⟩, .int .i64 0, .int .i64 3, .string ⟨#[43]⟩, .int .i64 0, .int .i64 4, .string ⟨#[126]⟩, .int .i64 1, .int .i64 2, .string ⟨#[126]⟩, .int .i64 1, .int .i64 3, .string ⟨#[124]⟩, .int .i64 1, .int .i64 4, .string ⟨#[94]⟩, .int .i64 1, .int .i64 5, .string ⟨#[36]⟩, .int .i64 1, .int .i64 6, .string ⟨#[42]⟩, .int .i64 2, .int .i64 5, .string ⟨#[110, 111, 116]⟩, .int .i64 2, .int .i64 6, .string ⟨#[105, 115]⟩, .int .i64 2, .int .i64 7, .string ⟨#[119, 104, 101, 114, 101]⟩, .int .i64 2, .int .i64 8, .string ⟨#[110, 116, 104, 45, 99, 104, 105, 108, 100]⟩, .int .i64 2, .int .i64 9, .string ⟨#[110, 116, 104, 45, 108, 97, 115, 116, 45, 99, 104, 105, 108, 100]⟩, .int .i64 2, .int .i64 10, .string ⟨#[114, 111, 111, 116]⟩, .int .i64 2, .int .i64 11, .string ⟨#[101, 109, 112, 116, 121]⟩]
/-- The block in which the table of signs lies. -/
def sgB : Nat := 1
def Signs (W : World) : Prop := W.rangeAt sgB 0 sgnC
theorem sgn_at : ∀ t, t < 15 → ∃ o n x, sgn[t]? = some (o, n, x) ∧ ∀ w, (Instr.index 142 (.agg sgnC.toArray) (.int .i64 (t : Nat))).run Tryz.prog w = .ok (.agg #[.int .i64 o, .int .i64 n, .string x]) w
  | 0, _ => ⟨0, 2, ⟨#[62]⟩, rfl, fun w => by kernel_rfl⟩
  | 1, _ => ⟨0, 3, ⟨#[43]⟩, rfl, fun w => by kernel_rfl⟩
  | 2, _ => ⟨0, 4, ⟨#[126]⟩, rfl, fun w => by kernel_rfl⟩
  | 3, _ => ⟨1, 2, ⟨#[126]⟩, rfl, fun w => by kernel_rfl⟩
  | 4, _ => ⟨1, 3, ⟨#[124]⟩, rfl, fun w => by kernel_rfl⟩
  | 5, _ => ⟨1, 4, ⟨#[94]⟩, rfl, fun w => by kernel_rfl⟩
  | 6, _ => ⟨1, 5, ⟨#[36]⟩, rfl, fun w => by kernel_rfl⟩
  | 7, _ => ⟨1, 6, ⟨#[42]⟩, rfl, fun w => by kernel_rfl⟩
  | 8, _ => ⟨2, 5, ⟨#[110, 111, 116]⟩, rfl, fun w => by kernel_rfl⟩
  | 9, _ => ⟨2, 6, ⟨#[105, 115]⟩, rfl, fun w => by kernel_rfl⟩
  | 10, _ => ⟨2, 7, ⟨#[119, 104, 101, 114, 101]⟩, rfl, fun w => by kernel_rfl⟩
  | 11, _ => ⟨2, 8, ⟨#[110, 116, 104, 45, 99, 104, 105, 108, 100]⟩, rfl, fun w => by kernel_rfl⟩
  | 12, _ => ⟨2, 9, ⟨#[110, 116, 104, 45, 108, 97, 115, 116, 45, 99, 104, 105, 108, 100]⟩, rfl, fun w => by kernel_rfl⟩
  | 13, _ => ⟨2, 10, ⟨#[114, 111, 111, 116]⟩, rfl, fun w => by kernel_rfl⟩
  | 14, _ => ⟨2, 11, ⟨#[101, 109, 112, 116, 121]⟩, rfl, fun w => by kernel_rfl⟩
  | t + 15, h => absurd h (by omega)
/-- What a sign stands for. -/
def numL (of : Int) (s : ByteArray) : List (Int × Int × ByteArray) → Int
  | [] => 0
  | (o, n, x) :: r => if (o == of && (x.toList == s.toList)) = true then n else numL of s r
def numZ (of : Int) (s : ByteArray) : Int := numL of s sgn
theorem info188 : (Tryz.prog.info? 142).map (·.size) = some sgnC.length := by kernel_rfl
theorem drop_at {α : Type} {l : List α} {t : Nat} {x : α} (h : l[t]? = some x) : l.drop t = x :: l.drop (t + 1) := by
  obtain ⟨hl, rfl⟩ := List.getElem?_eq_some_iff.1 h
  exact List.drop_eq_getElem_cons hl

set_option maxHeartbeats 800000 in
theorem number_any {W : World} (hs : Signs W) (of : Int) (s : ByteArray) :
    Calls Tryz.prog 93 #[.int .i64 of, .string s] W fun e w' => e = .returned (.int .i64 (numZ of s)) ∧ Below W.heap.size W w' := by
  have HX : Hid (∀ t, t < 15 → ∃ o n x, sgn[t]? = some (o, n, x) ∧ ∀ w, (Instr.index 142 (.agg sgnC.toArray) (.int .i64 (t : Nat))).run Tryz.prog w = .ok (.agg #[.int .i64 o, .int .i64 n, .string x]) w) := sgn_at
  have HI : Hid ((Tryz.prog.info? 142).map (·.size) = some sgnC.length) := info188
  have HR : Hid (W.rangeAt 1 0 sgnC) := hs
  have HL : Hid (sgn.length = 15) := rfl
  have H0 : Hid (numL of s (sgn.drop 0) = numZ of s) := rfl
  generalize numZ of s = R at *
  generalize sgnC = C at *
  generalize sgn = T at *
  clear hs
  go_enter Tryz.func93, Tryz.ntmps93
  go_wp2_with (refine wpList_load_mid rfl 142 (.global 1) rfl 1 0 rfl C _ HR.out Tryz.underlying142 rfl HI.out ?_)
  go_loopw [8] (fun a8 wq => ∃ t : Nat, t ≤ 15 ∧ a8 = .int .i64 (t : Int) ∧ Hid (numL of s (T.drop t) = R) ∧ Hid (Below W.heap.size W wq)) (fun a8 _ => 16 - (intOf a8).toNat)
  case atStart => exact ⟨0, by decide, rfl, H0, Below.refl _ _⟩
  case round =>
    obtain ⟨t, ht, rfl, HE, HB⟩ := hrel
    clear H0
    by_cases htl : t < 15
    · obtain ⟨o, n, x, h1, h2⟩ := HX.out t htl
      have hd1 : decide ((t : Int) < 15) = true := decide_eq_true (by omega)
      have HD : Hid (R = if (o == of && (x.toList == s.toList)) = true then n else numL of s (T.drop (t + 1))) := by
        rw [Hid, ← HE.out, drop_at h1]
        rfl
      have HBA : Hid (Below W.heap.size W (wr.alloc (.cells #[.int .i64 o, .int .i64 n, .string x] 141))) := HB.out.alloc HB.out.size _
      clear HX h1 HE HR HI
      by_cases ho : (o == of) = true
      · by_cases hx : (x.toList == s.toList) = true
        · have HZ : Hid (R = n) := by rw [Hid, HD.out, if_pos (by rw [ho, hx]; rfl)]
          clear HD
          go_wp2
          go_ret
          exact ⟨by rw [HZ.out]; rfl, HBA.out⟩
        · have hx2 : (x.toList == s.toList) = false := by simpa using hx
          have HZ : Hid (numL of s (T.drop (t + 1)) = R) := by rw [Hid, HD.out, if_neg (by rw [hx2]; simp)]
          clear HD hx
          go_wp2
          exact ⟨⟨t + 1, by omega, by go_num, HZ, HBA⟩, by simp only [intOf]; omega⟩
      · have ho2 : (o == of) = false := by simpa using ho
        have HZ : Hid (numL of s (T.drop (t + 1)) = R) := by rw [Hid, HD.out, if_neg (by rw [ho2]; simp)]
        clear HD ho
        go_wp2
        exact ⟨⟨t + 1, by omega, by go_num, HZ, HBA⟩, by simp only [intOf]; omega⟩
    · have hte : t = 15 := by omega
      subst hte
      have HZ : Hid (R = 0) := by rw [Hid, ← HE.out, List.drop_eq_nil_of_le (by rw [HL.out]; decide)]; rfl
      clear HX HE HR HI
      go_wp2
      go_ret
      exact ⟨by rw [HZ.out]; rfl, HB.out⟩
end Go.Proofs.YtdibldcnklgcjaaGreatDoor.L
namespace Go.Proofs.YtdibldcnklgcjaaGreatDoor.L
open Go.RowKit
set_option maxRecDepth 100000

theorem info51 : ∃ i z, Tryz.prog.info? 40 = some i ∧ i.zero = some z ∧ i.size = 7 ∧ i.bytes = 88 ∧ z.cells.size = 7 := ⟨_, _, by rfl, by rfl, by rfl, by rfl, by rfl⟩

set_option maxHeartbeats 1000000 in
theorem told_any {W : World} {lo b : Nat} {kids : Value} {vs : List V} (h : Rd lo W b kids vs W) (n : Nat) (hn : n ≤ vs.length) {g m c : Nat} {cs : List Value} (hg : g ≠ b) (hgl : g < W.heap.size) (hm : m ≤ 10) (hl : cs.length = m * 7)
    (hc : ∀ j u, cs[j]? = some u → W.cell? ⟨g, j, none⟩ = some u) (h1 : ∀ u ∈ cs, u.oneCell' = true) :
    Calls Tryz.prog 102 #[.pointer (some ⟨b, 0, none⟩), .int .i64 (n : Int), .slice (some ⟨g, 0, none⟩) m c] W fun e w' => ∃ v, e = .returned v ∧ w'.ownsRow W.heap.size 40 7 v m cs ∧ Rd lo W b kids (vs.drop n) w' := by
  obtain ⟨i0, z0, hi, hz0, hz1, hz2, hz3⟩ := info51
  have hsk := skip_any h n hn
  have HC := hid_mk hc
  have HL := hid_mk hl
  have H1 := hid_mk h1
  clear h hn hc hl h1
  go_enter Tryz.func102, Tryz.ntmps102
  go_wp2_with (go_at_call 38; fail)
  refine hsk.mono ?_
  rintro e w1 ⟨rfl, hR⟩
  have HR := hid_mk hR
  have hsz : W.heap.size ≤ w1.heap.size := hR.keep.size
  have hown : w1.ownsRow W.heap.size 40 7 (.slice none 0 0) 0 [] := ⟨rfl, .inl ⟨rfl, rfl⟩⟩
  have hcc : ∀ j u, cs[j]? = some u → w1.cell? (Addr.add ⟨g, 0, none⟩ j) = some u := fun j u hu => by
    rw [Addr.add_mid, Nat.zero_add]
    exact (cell_of_heap (hR.keep.block g hgl hg)).trans (HC.out j u hu)
  clear hsk hR
  go_wp2_with (at_builtin; with_reducible refine wpList_append_own _ rfl _ _ 41 rfl W.heap.size 40 i0 z0 7 88 Tryz.underlying41 hi hz0 hz1 hz2 hz3 (by decide) (.slice none 0 0) 0 [] rfl hown ⟨g, 0, none⟩ m c cs rfl HL.out hcc H1.out ?c1 ?c2 ?c3 ?_)
  case c1 => unfold maxLen; omega
  case c2 => omega
  case c3 => exact hsz
  intro v' w2 ho2 hgr _
  have hB : Below w1.heap.size w1 w2 := ⟨hgr.os, hgr.tape, hgr.output, hgr.size, fun k hk => hgr.block k hk (by intro e; cases e)⟩
  have HO := hid_mk ho2
  have HR2 := hid_mk (HR.out.then hB)
  clear ho2 hgr hown hcc hi hz0 hz1 hz2 hz3 hB
  go_wp2
  go_ret
  exact ⟨_, rfl, HO.out, HR2.out⟩
end Go.Proofs.YtdibldcnklgcjaaGreatDoor.L
namespace Go.Proofs.YtdibldcnklgcjaaGreatDoor.L
open Go.RowKit
set_option maxRecDepth 100000

/-- A simple selector's plain fields. -/
structure S6 where
  k : Int
  nm : ByteArray
  op : Int
  v : ByteArray
  a : Int
  b : Int
/-- A complex selector: its Parts, each simple one with its List, and its Combs. -/
inductive Cx where
  | mk (parts : List (List (S6 × List Cx))) (combs : List Int)
def Cx.parts : Cx → List (List (S6 × List Cx)) | .mk p _ => p
def Cx.combs : Cx → List Int | .mk _ c => c
def s7 (s : S6) (l : Value) : List Value := [.int .i64 s.k, .string s.nm, .int .i64 s.op, .string s.v, .int .i64 s.a, .int .i64 s.b, l]
/-- A slice of n items that begins there. -/
def Sl (W : World) (v : Value) (n b off : Nat) : Prop := ∃ a cap, v = .slice a n cap ∧ n ≤ cap ∧ cap ≤ 9223372036854775807 ∧ (0 < n → a = some ⟨b, off, none⟩ ∧ b < W.heap.size)
theorem Sl.keep {W W' : World} {v : Value} {n b off : Nat} (h : Sl W v n b off) (hb : Below W.heap.size W W') : Sl W' v n b off := by
  obtain ⟨a, cap, h1, h2, h3, h4⟩ := h
  exact ⟨a, cap, h1, h2, h3, fun h0 => ⟨(h4 h0).1, Nat.lt_of_lt_of_le (h4 h0).2 hb.size⟩⟩
theorem Sl.cell {W W' : World} {v : Value} {n b off : Nat} (h : Sl W v n b off) (hb : Below W.heap.size W W') (hn : 0 < n) (o : Nat) : W'.cell? ⟨b, o, none⟩ = W.cell? ⟨b, o, none⟩ := by
  obtain ⟨a, cap, h1, h2, h3, h4⟩ := h
  exact hb.cell (p := ⟨b, o, none⟩) (h4 hn).2
/-- The two slices of one complex selector; R says what its Lists are. -/
structure CxAt (R : Value → List Cx → Prop) (W : World) (pv cv : Value) (c : Cx) (bc oc bp op : Nat) (qv : Nat → Value) (bq oq : Nat → Nat) (lv : Nat → Nat → Value) : Prop where
  cs : Sl W cv c.combs.length bc oc
  cc : ∀ t (h : t < c.combs.length), W.cell? ⟨bc, oc + t, none⟩ = some (.int .i64 (c.combs[t]'h))
  ps : Sl W pv c.parts.length bp op
  pc : ∀ j, j < c.parts.length → W.cell? ⟨bp, op + j, none⟩ = some (qv j)
  qs : ∀ j (h : j < c.parts.length), Sl W (qv j) (c.parts[j]'h).length (bq j) (oq j)
  qc : ∀ j (h : j < c.parts.length) t (h' : t < (c.parts[j]'h).length), ∀ y u, (s7 ((c.parts[j]'h)[t]'h').1 (lv j t))[y]? = some u → W.cell? ⟨bq j, oq j + t * 7 + y, none⟩ = some u
  ls : ∀ j (h : j < c.parts.length) t (h' : t < (c.parts[j]'h).length), R (lv j t) ((c.parts[j]'h)[t]'h').2
/-- A list of selectors. -/
inductive ClAt (W : World) : Value → List Cx → Prop
  | mk (v : Value) (l : List Cx) (b off : Nat) (pv cv : Nat → Value) (bc oc bp op : Nat → Nat) (qv : Nat → Nat → Value) (bq oq : Nat → Nat → Nat) (lv : Nat → Nat → Nat → Value)
      (hs : Sl W v l.length b off)
      (hc : ∀ i, i < l.length → W.cell? ⟨b, off + i * 2, none⟩ = some (pv i) ∧ W.cell? ⟨b, off + i * 2 + 1, none⟩ = some (cv i))
      (h1 : ∀ i (h : i < l.length), Sl W (cv i) (l[i]'h).combs.length (bc i) (oc i))
      (h2 : ∀ i (h : i < l.length) t (h' : t < (l[i]'h).combs.length), W.cell? ⟨bc i, oc i + t, none⟩ = some (.int .i64 ((l[i]'h).combs[t]'h')))
      (h3 : ∀ i (h : i < l.length), Sl W (pv i) (l[i]'h).parts.length (bp i) (op i))
      (h4 : ∀ i (h : i < l.length) j, j < (l[i]'h).parts.length → W.cell? ⟨bp i, op i + j, none⟩ = some (qv i j))
      (h5 : ∀ i (h : i < l.length) j (h' : j < (l[i]'h).parts.length), Sl W (qv i j) ((l[i]'h).parts[j]'h').length (bq i j) (oq i j))
      (h6 : ∀ i (h : i < l.length) j (h' : j < (l[i]'h).parts.length) t (h'' : t < ((l[i]'h).parts[j]'h').length), ∀ y u, (s7 (((l[i]'h).parts[j]'h')[t]'h'').1 (lv i j t))[y]? = some u → W.cell? ⟨bq i j, oq i j + t * 7 + y, none⟩ = some u)
      (hr : ∀ i (h : i < l.length) j (h' : j < (l[i]'h).parts.length) t (h'' : t < ((l[i]'h).parts[j]'h').length), ClAt W (lv i j t) (((l[i]'h).parts[j]'h')[t]'h'').2) : ClAt W v l
theorem ClAt.keep {W W' : World} (hb : Below W.heap.size W W') {v : Value} {l : List Cx} (h : ClAt W v l) : ClAt W' v l := by
  induction h with
  | mk v l b off pv cv bc oc bp op qv bq oq lv hs hc h1 h2 h3 h4 h5 h6 hr ih =>
    refine .mk v l b off pv cv bc oc bp op qv bq oq lv (hs.keep hb) (fun i h => ?_) (fun i h => (h1 i h).keep hb) (fun i h t h' => ?_) (fun i h => (h3 i h).keep hb) (fun i h j h' => ?_) (fun i h j h' => (h5 i h j h').keep hb) (fun i h j h' t h'' y u hu => ?_) ih
    · rw [hs.cell hb (by omega), hs.cell hb (by omega)]
      exact hc i h
    · rw [(h1 i h).cell hb (by omega)]
      exact h2 i h t h'
    · rw [(h3 i h).cell hb (by omega)]
      exact h4 i h j h'
    · rw [(h5 i h j h').cell hb (by omega)]
      exact h6 i h j h' t h'' y u hu
/-- One by one. -/
theorem ClAt.at {W : World} {v : Value} {l : List Cx} (h : ClAt W v l) : ∃ b off, Sl W v l.length b off ∧ ∀ i (hi : i < l.length), ∃ pv cv bc oc bp op qv bq oq lv, W.cell? ⟨b, off + i * 2, none⟩ = some pv ∧ W.cell? ⟨b, off + i * 2 + 1, none⟩ = some cv ∧ CxAt (ClAt W) W pv cv (l[i]'hi) bc oc bp op qv bq oq lv := by
  cases h with
  | mk v l b off pv cv bc oc bp op qv bq oq lv hs hc h1 h2 h3 h4 h5 h6 hr =>
    exact ⟨b, off, hs, fun i hi => ⟨pv i, cv i, bc i, oc i, bp i, op i, qv i, bq i, oq i, lv i, (hc i hi).1, (hc i hi).2, h1 i hi, h2 i hi, h3 i hi, h4 i hi, h5 i hi, h6 i hi, hr i hi⟩⟩
theorem CxAt.keep {W W' : World} (hb : Below W.heap.size W W') {pv cv : Value} {c : Cx} {bc oc bp op : Nat} {qv : Nat → Value} {bq oq : Nat → Nat} {lv : Nat → Nat → Value} (h : CxAt (ClAt W) W pv cv c bc oc bp op qv bq oq lv) : CxAt (ClAt W') W' pv cv c bc oc bp op qv bq oq lv := by
  refine ⟨h.cs.keep hb, fun t ht => ?_, h.ps.keep hb, fun j hj => ?_, fun j hj => (h.qs j hj).keep hb, fun j hj t ht y u hu => ?_, fun j hj t ht => (h.ls j hj t ht).keep hb⟩
  · rw [h.cs.cell hb (by omega)]; exact h.cc t ht
  · rw [h.ps.cell hb (by omega)]; exact h.pc j hj
  · rw [(h.qs j hj).cell hb (by omega)]; exact h.qc j hj t ht y u hu
/-- How much there is, down to a depth. -/
def wtS (f : List Cx → Nat) (x : S6 × List Cx) : Nat := 1 + (x.1.nm.size + x.1.v.size) / 20 + f x.2
def wtP (f : List Cx → Nat) (p : List (S6 × List Cx)) : Nat := 1 + (p.map (wtS f)).sum
def wtC (f : List Cx → Nat) (c : Cx) : Nat := 1 + c.combs.length + (c.parts.map (wtP f)).sum
def wt : Nat → List Cx → Nat
  | 0, _ => 0
  | d + 1, l => (l.map (wtC (wt d))).sum
theorem sum_take {α : Type} (f : α → Nat) {l : List α} {i : Nat} (h : i < l.length) : ((l.take (i + 1)).map f).sum = ((l.take i).map f).sum + f l[i] := by
  rw [List.take_add_one, List.getElem?_eq_getElem h, Option.toList_some, List.map_append, List.sum_append]
  simp
theorem sum_take_le {α : Type} (f : α → Nat) (l : List α) (i : Nat) : ((l.take i).map f).sum ≤ (l.map f).sum := by
  have h := congrArg (fun x => (x.map f).sum) (List.take_append_drop i l)
  simp only [List.map_append, List.sum_append] at h
  omega
end Go.Proofs.YtdibldcnklgcjaaGreatDoor.L
