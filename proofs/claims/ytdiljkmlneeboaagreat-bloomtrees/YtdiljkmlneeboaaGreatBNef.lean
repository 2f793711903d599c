/- Keys may be added in any order, and again. Skip of any selector. The document's put. The document's Needs. Which keys are among those put in; the document's Skip. The very same keys. What a selector asks, told to a closure that appends. slices.Compact of keys, at any length. Needs of any selector, as soon as slices.Sort of keys sorts. Needs of any selector, as soon as slices.Sort of keys sorts: the whole call. -/
import Derived.Test.YtdiljkmlneeboaaGreatBLiv
import Derived.Shelf.SlicesE.Compact
import Derived.Ground.SlgnProg
namespace Go.Proofs.YtdiljkmlneeboaaGreat.B
open Go.RowKit
set_option maxRecDepth 100000

theorem or_swap (x y z : Nat) : (x ||| y) ||| z = (x ||| z) ||| y := by rw [Nat.or_assoc, Nat.or_comm y z, ← Nat.or_assoc]
theorem or_same (x y : Nat) : (x ||| y) ||| y = x ||| y := by rw [Nat.or_assoc, Nat.or_self]
theorem bit_comm (f : Flt) (n m : Nat) : (f.bit n).bit m = (f.bit m).bit n := by
  unfold Flt.bit
  by_cases n0 : n / 64 = 0
  · by_cases m0 : m / 64 = 0
    · simp only [if_pos n0, if_pos m0, or_swap]
    · by_cases m1 : m / 64 = 1
      · simp only [if_pos n0, if_neg m0, if_pos m1]
      · by_cases m2 : m / 64 = 2
        · simp only [if_pos n0, if_neg m0, if_neg m1, if_pos m2]
        · simp only [if_pos n0, if_neg m0, if_neg m1, if_neg m2]
  · by_cases n1 : n / 64 = 1
    · by_cases m0 : m / 64 = 0
      · simp only [if_neg n0, if_pos n1, if_pos m0]
      · by_cases m1 : m / 64 = 1
        · simp only [if_neg n0, if_pos n1, if_neg m0, if_pos m1, or_swap]
        · by_cases m2 : m / 64 = 2
          · simp only [if_neg n0, if_pos n1, if_neg m0, if_neg m1, if_pos m2]
          · simp only [if_neg n0, if_pos n1, if_neg m0, if_neg m1, if_neg m2]
    · by_cases n2 : n / 64 = 2
      · by_cases m0 : m / 64 = 0
        · simp only [if_neg n0, if_neg n1, if_pos n2, if_pos m0]
        · by_cases m1 : m / 64 = 1
          · simp only [if_neg n0, if_neg n1, if_pos n2, if_neg m0, if_pos m1]
          · by_cases m2 : m / 64 = 2
            · simp only [if_neg n0, if_neg n1, if_pos n2, if_neg m0, if_neg m1, if_pos m2, or_swap]
            · simp only [if_neg n0, if_neg n1, if_pos n2, if_neg m0, if_neg m1, if_neg m2]
      · by_cases m0 : m / 64 = 0
        · simp only [if_neg n0, if_neg n1, if_neg n2, if_pos m0]
        · by_cases m1 : m / 64 = 1
          · simp only [if_neg n0, if_neg n1, if_neg n2, if_neg m0, if_pos m1]
          · by_cases m2 : m / 64 = 2
            · simp only [if_neg n0, if_neg n1, if_neg n2, if_neg m0, if_neg m1, if_pos m2]
            · simp only [if_neg n0, if_neg n1, if_neg n2, if_neg m0, if_neg m1, if_neg m2, or_swap]
theorem bit_same (f : Flt) (n : Nat) : (f.bit n).bit n = f.bit n := by
  unfold Flt.bit
  by_cases n0 : n / 64 = 0
  · simp only [if_pos n0, or_same]
  · by_cases n1 : n / 64 = 1
    · simp only [if_neg n0, if_pos n1, or_same]
    · by_cases n2 : n / 64 = 2
      · simp only [if_neg n0, if_neg n1, if_pos n2, or_same]
      · simp only [if_neg n0, if_neg n1, if_neg n2, or_same]
theorem add_comm (f : Flt) (j k : Nat) : (f.add j).add k = (f.add k).add j := by
  unfold Flt.add
  rw [bit_comm (f.bit (j % 256)) (j / 256 % 256) (k % 256), bit_comm f (j % 256) (k % 256), bit_comm ((f.bit (k % 256)).bit (j % 256)) (j / 256 % 256) (k / 256 % 256), bit_comm (f.bit (k % 256)) (j % 256) (k / 256 % 256)]
theorem add_same (f : Flt) (k : Nat) : (f.add k).add k = f.add k := by
  unfold Flt.add
  rw [bit_comm (f.bit (k % 256)) (k / 256 % 256) (k % 256), bit_same, bit_same]
def addAll (f : Flt) (l : List Nat) : Flt := l.foldl Flt.add f
theorem addAll_add (k : Nat) : ∀ (l : List Nat) (f : Flt), (addAll f l).add k = addAll (f.add k) l
  | [], _ => rfl
  | x :: l, f => by
    show (addAll (f.add x) l).add k = addAll ((f.add k).add x) l
    rw [addAll_add k l, add_comm]
theorem addAll_mem {k : Nat} : ∀ {l : List Nat} (f : Flt), k ∈ l → (addAll f l).add k = addAll f l
  | [], _, h => (List.not_mem_nil h).elim
  | x :: l, f, h => by
    show (addAll (f.add x) l).add k = addAll (f.add x) l
    rcases List.mem_cons.1 h with rfl | h
    · rw [addAll_add, add_same]
    · exact addAll_mem _ h
theorem addAll_app (f : Flt) (l : List Nat) (k : Nat) : addAll f (l ++ [k]) = (addAll f l).add k := by
  unfold addAll
  rw [List.foldl_append]
  rfl
theorem addAll_rev : ∀ (l : List Nat) (f : Flt), addAll f l.reverse = addAll f l
  | [], _ => rfl
  | x :: l, f => by
    rw [List.reverse_cons, addAll_app, addAll_rev l f, addAll_add]
    rfl
theorem ok_addAll : ∀ (l : List Nat) {f : Flt}, f.ok → (addAll f l).ok
  | [], _, h => h
  | x :: l, _, h => ok_addAll l (ok_add h x)
end Go.Proofs.YtdiljkmlneeboaaGreat.B
namespace Go.Proofs.YtdiljkmlneeboaaGreat.B
open Go.RowKit
set_option maxRecDepth 100000

theorem eqb_iff (f g : Flt) : f.eqb g = true ↔ f = g := by
  unfold Flt.eqb
  rw [decide_eq_true_eq]
  constructor
  · rintro ⟨h1, h2, h3, h4⟩
    cases f; cases g
    dsimp only at h1 h2 h3 h4
    subst h1 h2 h3 h4
    rfl
  · rintro rfl
    exact ⟨rfl, rfl, rfl, rfl⟩
/-- Nothing is added just if each is there. -/
theorem addAll_there : ∀ (l : List Nat) (f : Flt), addAll f l = f ↔ ∀ k ∈ l, f.add k = f
  | l, f => by
    constructor
    · intro h k hk
      have h1 := addAll_mem f hk
      rw [h] at h1
      exact h1
    · intro h
      induction l with
      | nil => rfl
      | cons x l ih =>
        show addAll (f.add x) l = f
        rw [h x (by simp)]
        exact ih fun k hk => h k (by simp [hk])

set_option maxHeartbeats 2000000 in
theorem skip_any {w : World} (f : Flt) (hf : f.ok) {pv cv : Value} {c : Cx} {bc oc bp op : Nat} {qv : Nat → Value} {bq oq : Nat → Nat} {lv : Nat → Nat → Value} (hc : CxAt (ClAt w) w pv cv c bc oc bp op qv bq oq lv) (hn : ∀ p ∈ c.parts, ∀ x ∈ p, x.1.nm.size ≤ 140737488351232) (hl : c.parts.length ≤ 100000000000000) :
    Calls Tryz.prog 16 #[f.v, .agg #[pv, cv]] w fun e w' => e = .returned (.bool (!(addAll f (asksL c)).eqb f)) ∧ Below w.heap.size w w' := by
  obtain ⟨w1, hw1⟩ : ∃ w1, w1 = ((w.alloc (.cells #[.int .u64 (f.a : Int), .int .u64 (f.b : Int), .int .u64 (f.c : Int), .int .u64 (f.d : Int)] 35)).alloc (.cells #[pv, cv] 45)).alloc (.cells #[.int .u64 (f.a : Int), .int .u64 (f.b : Int), .int .u64 (f.c : Int), .int .u64 (f.d : Int)] 35) := ⟨_, rfl⟩
  have hB1 : Below w.heap.size w w1 := by rw [hw1]; exact (((Below.refl _ _).alloc (Nat.le_refl _) _).alloc (by simp) _).alloc (by simp; omega) _
  have hs1 : w1.heap.size = w.heap.size + 3 := by rw [hw1]; simp
  have hf1 : FAt w1 (w.heap.size + 2) 35 f := by rw [hw1]; exact alloc_at _ _ _ (by simp)
  have hf0 : FAt w1 w.heap.size 35 f := by
    rw [hw1]
    unfold FAt
    rw [Below.heap_alloc _ _ _ (by simp; omega), Below.heap_alloc _ _ _ (by simp)]
    exact heap_alloc_last w _
  have hask := asksG_26 (J := fun l W => KeepX (w.heap.size + 2) w1 W ∧ FAt W (w.heap.size + 2) 35 (addAll f l)) (pv := pv) (cv := cv) (c := c) (bc := bc) (oc := oc) (bp := bp) (op := op) (qv := qv) (bq := bq) (oq := oq) (lv := lv) (b := w.heap.size + 2)
    (fun l W W' h hb => ⟨h.1.trans (KeepX.of hb), h.2.keep hb⟩)
    (fun l W h => hc.keep (hB1.trans (h.1.below (by omega) (by omega))))
    hn hl
    (fun l W k hk h => (tell26 (ok_addAll l hf) h.2 k hk).mono fun e W' q => ⟨q.1, ⟨h.1.trans q.2.2, by rw [addAll_app]; exact q.2.1⟩, q.2.2⟩)
    (w := w1) (l := []) ⟨KeepX.of (Below.refl _ _), hf1⟩ (by omega)
  rw [List.nil_append] at hask
  obtain ⟨pa, pc, epv, _⟩ := hc.ps
  obtain ⟨ca, cc, ecv, _⟩ := hc.cs
  have HE : Hid (∀ V, _) := fun V => flt_eq V (addAll f (asksL c)) f
  generalize addAll f (asksL c) = r at *
  have HF0 := hid_mk hf0
  have HB1 := hid_mk hB1
  have HS1 := hid_mk hs1
  have HW1 := hid_mk hw1
  subst epv ecv
  clear hB1 hs1 hf1 hf0 hw1 hc hn
  generalize r.eqb f = z at *
  unfold Flt.v
  go_enter Tryz.func16, Tryz.ntmps16
  go_wp2_with (go_at_call 41; fail)
  rw [← HW1.out]
  refine hask.mono ?_
  rintro e w2 ⟨rfl, hX, hF2⟩
  have hF0 : FAt w2 w.heap.size 35 f := (hX.block _ (by rw [HS1.out]; omega) (by omega)).trans HF0.out
  have HB := hid_mk (HB1.out.trans (hX.below (B := w.heap.size) (by omega) (by rw [HS1.out]; omega)))
  obtain ⟨k0, k1, k2, k3⟩ := hF2.cells.1
  obtain ⟨m0, m1, m2, m3⟩ := hF0.cells.1
  have hE := HE.out
  clear hask hF2 hX hF0 HF0 HB1 HS1 HW1 HE
  go_wp2
  go_ret
  exact ⟨rfl, HB.out⟩
end Go.Proofs.YtdiljkmlneeboaaGreat.B
namespace Go.Proofs.YtdiljkmlneeboaaGreat.B
open Go.RowKit
set_option maxRecDepth 100000

def keysV (l : List Nat) : List Value := l.map fun (k : Nat) => .int .u32 (k : Int)
/-- A row of keys of one's own. -/
def OwnK (w : World) (B : Nat) (v : Value) (l : List Nat) : Prop := w.ownsRow B 39 1 v l.length (keysV l)
theorem OwnK.keep {w w' : World} {B : Nat} {v : Value} {l : List Nat} (h : OwnK w B v l) (hb : Below w.heap.size w w') : OwnK w' B v l := by
  obtain ⟨h1, h2⟩ := h
  refine ⟨h1, h2.imp id fun ⟨g, cap, cur, a, b, c, d⟩ => ⟨g, cap, cur, a, b, (hb.block _ (Array.getElem?_eq_some_iff.1 c).1).trans c, d⟩⟩
theorem OwnK.nil (w : World) (B : Nat) : OwnK w B (.slice none 0 0) [] := ⟨rfl, .inl ⟨rfl, rfl⟩⟩
theorem OwnK.at {w : World} {B : Nat} {v : Value} {l : List Nat} (h : OwnK w B v l) : ∃ a c, v = .slice a l.length c ∧ l.length ≤ c ∧ c ≤ 9223372036854775807 ∧ ∀ t (ht : t < l.length), ∃ g, a = some ⟨g, 0, none⟩ ∧ g < w.heap.size ∧ w.cell? ⟨g, t, none⟩ = some (.int .u32 ((l[t]'ht : Nat) : Int)) := by
  have h0 := h
  rcases h.2 with ⟨rfl, hn⟩ | ⟨g, cap, cur, rfl, _, hg, hnc, hcm, _⟩
  · exact ⟨none, 0, by rw [hn], by omega, by decide, fun t ht => absurd ht (by omega)⟩
  · refine ⟨_, cap, rfl, hnc, hcm, fun t ht => ⟨g, rfl, (Array.getElem?_eq_some_iff.1 hg).1, ?_⟩⟩
    rw [World.ownsRow.cellAt h0 t (by omega)]
    simp [keysV, ht]
/-- One more, in a walk. -/
theorem own_more {w2 : World} {B : Nat} {v' : Value} {l : List Nat} {k : Nat} (ho : w2.ownsRow B 39 1 v' (l.length + 1) (keysV l ++ [.int .u32 (k : Int)])) : OwnK w2 B v' (l ++ [k]) := by
  unfold OwnK
  rw [List.length_append, List.length_singleton]
  have e : keysV (l ++ [k]) = keysV l ++ [.int .u32 (k : Int)] := by simp [keysV]
  rw [e]
  exact ho
theorem grown_below {w w1 w2 : World} {B : Nat} {v : Value} {l : List Nat} (h : OwnK w1 B v l) (hg : w1.grownBy w2 v.ownBlock) (hB : Below B w w1) (hBs : B ≤ w.heap.size) : Below B w w2 := by
  refine ⟨hg.os.trans hB.os, hg.tape.trans hB.tape, hg.output.trans hB.output, Nat.le_trans hB.size hg.size, fun k hk => ?_⟩
  have h4 := hB.size
  rw [hg.block k (by omega) (fun e => by have := (h.lt k e.symm).1; omega)]
  exact hB.block k hk
theorem one_cell (w : World) (k : Nat) : ∀ (j : Nat) u, [Value.int .u32 ((k : Nat) : Int)][j]? = some u → (w.alloc (.cells #[.int .u32 (k : Int)] 39)).cell? (Addr.add ⟨w.heap.size, 0, none⟩ j) = some u := fun j u hu => by
  have hj : j = 0 := by
    have := (List.getElem?_eq_some_iff.1 hu).1
    simp at this
    exact this
  subst hj
  rw [← hu]
  show World.cell? _ ⟨w.heap.size, 0 + 0, none⟩ = _
  rw [cellAt (heap_alloc_last w _)]
  rfl
/-- What is told so far, and whether the new one is among it. -/
def stepP (k : Nat) (s : List Nat × Bool) (x : Nat) : List Nat × Bool :=
  let o1 := if k ≤ x ∧ s.2 = false then s.1 ++ [k] else s.1
  let d1 := if k ≤ x ∧ s.2 = false then true else s.2
  (if x = k then o1 else o1 ++ [x], d1)
def putS (k : Nat) (l : List Nat) : List Nat × Bool := l.foldl (stepP k) ([], false)
def putL (l : List Nat) (k : Nat) : List Nat := if (putS k l).2 then (putS k l).1 else (putS k l).1 ++ [k]
theorem putS_succ {k : Nat} {l : List Nat} {t : Nat} (h : t < l.length) : putS k (l.take (t + 1)) = stepP k (putS k (l.take t)) l[t] := foldl_take (stepP k) (List.getElem?_eq_getElem h)
theorem putS_len (k : Nat) : ∀ (l : List Nat) (s : List Nat × Bool), (l.foldl (stepP k) s).1.length ≤ s.1.length + 2 * l.length
  | [], s => Nat.le_refl _
  | x :: l, s => by
    have h := putS_len k l (stepP k s x)
    rw [List.foldl_cons]
    have h2 : (stepP k s x).1.length ≤ s.1.length + 2 := by
      unfold stepP
      dsimp only
      split <;> split <;> simp
    rw [List.length_cons]
    omega

set_option maxHeartbeats 4000000 in
theorem rput_any {w : World} {B : Nat} {v : Value} {l : List Nat} (h : OwnK w B v l) (hl : l.length ≤ 1000000) (k : Nat) : Calls Tryz.prog 35 #[v, .int .u32 (k : Int)] w fun e w' => ∃ v', e = .returned v' ∧ OwnK w' w.heap.size v' (putL l k) ∧ Below w.heap.size w w' := by
  obtain ⟨i0, z0, hi, hz0, hz1, hz2, hz3⟩ := info25
  have HC : Hid (∀ w', Below w.heap.size w w' → ∀ t (ht : t < l.length), ∃ g, (∃ a c, v = .slice a l.length c ∧ a = some ⟨g, 0, none⟩) ∧ w'.cell? ⟨g, t, none⟩ = some (.int .u32 ((l[t]'ht : Nat) : Int))) := fun w' hw' t ht => by
    obtain ⟨a, c, e, _, _, hc⟩ := (h.keep hw').at
    obtain ⟨g, e2, _, hcell⟩ := hc t ht
    exact ⟨g, ⟨a, c, e, e2⟩, hcell⟩
  obtain ⟨a, c, rfl, hlc, hcm, _⟩ := h.at
  have HLEN : Hid (∀ t, (putS k (l.take t)).1.length ≤ 2 * l.length) := fun t => by
    have h1 := putS_len k (l.take t) ([], false)
    have h2 : (l.take t).length ≤ l.length := by rw [List.length_take]; omega
    unfold putS
    simp only [List.length_nil] at h1
    omega
  have HB0 := hid_mk (Below.refl w.heap.size w)
  clear h
  go_enter Tryz.func35, Tryz.ntmps35
  go_wp2
  go_loopw [5, 6, 11] (fun a5 a6 a11 wq => ∃ t : Nat, t ≤ l.length ∧ a11 = .int .i64 (t : Int) ∧ a6 = .bool (putS k (l.take t)).2 ∧ Hid (OwnK wq w.heap.size a5 (putS k (l.take t)).1) ∧ Hid (Below w.heap.size w wq)) (fun _ _ a11 _ => l.length + 1 - (intOf a11).toNat)
  case atStart => exact ⟨0, Nat.zero_le _, rfl, rfl, OwnK.nil _ _, HB0⟩
  case round =>
    obtain ⟨t, ht, rfl, rfl, HO, HB⟩ := hrel
    by_cases htl : t < l.length
    · obtain ⟨g, ⟨_, _, e1, e2⟩, q1⟩ := HC.out wr HB.out t htl
      cases e1
      subst e2
      have HPS := hid_mk (putS_succ (k := k) htl)
      have hln := HLEN.out t
      generalize putS k (l.take t) = S at *
      obtain ⟨o, d⟩ := S
      generalize l[t] = x at *
      dsimp only at HO hln ⊢
      obtain ⟨o1, ho1⟩ : ∃ o1, o1 = if k ≤ x ∧ d = false then o ++ [k] else o := ⟨_, rfl⟩
      obtain ⟨d1, hd1⟩ : ∃ d1, d1 = if k ≤ x ∧ d = false then true else d := ⟨_, rfl⟩
      have HST : Hid (stepP k (o, d) x = (if x = k then o1 else o1 ++ [x], d1)) := by rw [Hid, ho1, hd1]; rfl
      have hl1 : o1.length ≤ 2000001 := by
        rw [ho1]
        split
        · rw [List.length_append, List.length_singleton]; omega
        · omega
      have HO1 := hid_mk ho1
      have HD1 := hid_mk hd1
      have HI := hid_mk hi
      clear ho1 hd1 hi
      go_upto_region 6 with (fail)
      go_cut [21] (fun s21 wx => s21 = .bool (decide (k ≤ x ∧ d = false)) ∧ wx = wr)
      case first =>
        by_cases hkx : k ≤ x
        · have g1 : decide ((k : Int) ≤ (x : Int)) = true := decide_eq_true (by omega)
          have g2 : decide (k ≤ x) = true := decide_eq_true hkx
          cases d with
          | false =>
            have HDE : Hid (decide (k ≤ x ∧ false = false) = true) := decide_eq_true ⟨hkx, rfl⟩
            clear hkx
            go_wp2_with fail
            go_meet
            exact ⟨by rw [HDE.out], rfl⟩
          | true =>
            have HDE : Hid (decide (k ≤ x ∧ true = false) = false) := decide_eq_false fun h => by cases h.2
            clear hkx
            go_wp2_with fail
            go_meet
            exact ⟨by rw [HDE.out], rfl⟩
        · have g1 : decide ((k : Int) ≤ (x : Int)) = false := decide_eq_false (by omega)
          have g2 : decide (k ≤ x) = false := decide_eq_false hkx
          have HDE : Hid (decide (k ≤ x ∧ d = false) = false) := decide_eq_false fun h => hkx h.1
          clear hkx
          go_wp2_with fail
          go_meet
          exact ⟨by rw [HDE.out], rfl⟩
      case rest =>
      obtain ⟨rfl, hwc⟩ := hcut
      rw [hwc]
      clear hwc q1
      go_upto_if 21 with (fail)
      go_cut [5, 6] (fun s5 s6 wx => s6 = .bool d1 ∧ Hid (OwnK wx w.heap.size s5 o1) ∧ Hid (Below w.heap.size w wx))
      case first =>
        by_cases hkx : k ≤ x ∧ d = false
        · have e1 : decide (k ≤ x ∧ d = false) = true := decide_eq_true hkx
          rw [e1]
          have HE1 : Hid (o1 = o ++ [k]) := by rw [Hid, HO1.out, if_pos hkx]
          have HE2 : Hid (d1 = true) := by rw [Hid, HD1.out, if_pos hkx]
          have hown : (wr.alloc (.cells #[.int .u32 (k : Int)] 39)).ownsRow w.heap.size 39 1 u5 o.length (keysV o) := (HO.out.keep ((Below.refl _ _).alloc (Nat.le_refl _) _) : OwnK _ _ _ _)
          have hbs : w.heap.size ≤ (wr.alloc (.cells #[.int .u32 (k : Int)] 39)).heap.size := by have := HB.out.size; simp; omega
          clear hkx e1
          go_wp2_with (at_builtin; with_reducible refine wpList_append_own _ rfl _ _ 30 rfl w.heap.size 39 i0 z0 1 4 Tryz.underlying30 HI.out hz0 hz1 hz2 hz3 (by decide) u5 o.length (keysV o) rfl hown ⟨wr.heap.size, 0, none⟩ 1 1 [.int .u32 ((k : Nat) : Int)] rfl rfl (one_cell wr k) ?c1 ?c2 ?c3 ?c4 ?_)
          case c1 => intro u hu; rw [List.mem_singleton.1 hu]; rfl
          case c2 => unfold maxLen; omega
          case c3 => omega
          case c4 => exact hbs
          intro v' w2 ho2 hg _
          have HO2 : Hid (OwnK w2 w.heap.size v' o1) := by rw [Hid, HE1.out]; exact own_more ho2
          have HB2 : Hid (Below w.heap.size w w2) := grown_below (w1 := wr.alloc (.cells #[.int .u32 (k : Int)] 39)) hown hg (HB.out.alloc HB.out.size _) (Nat.le_refl _)
          clear ho2 hg hown hbs
          go_wp2_with fail
          go_meet
          exact ⟨by rw [HE2.out], HO2, HB2⟩
        · have e1 : decide (k ≤ x ∧ d = false) = false := decide_eq_false hkx
          rw [e1]
          have HE1 : Hid (o1 = o) := by rw [Hid, HO1.out, if_neg hkx]
          have HE2 : Hid (d1 = d) := by rw [Hid, HD1.out, if_neg hkx]
          clear hkx e1
          go_wp2_with fail
          go_meet
          exact ⟨by rw [HE2.out], by rw [HE1.out]; exact HO, HB⟩
      case rest =>
      obtain ⟨rfl, HO2, HB2⟩ := hcut
      clear HO HB HO1 HD1
      by_cases hxk : x = k
      · have g1 : ((x : Int) != (k : Int)) = false := by simp [hxk]
        have g2 : (x != k) = false := by simp [hxk]
        have HE : Hid (putS k (l.take (t + 1)) = (o1, d1)) := by rw [Hid, HPS.out, HST.out, if_pos hxk]
        clear hxk HPS HST HC HLEN
        go_wp2
        exact ⟨⟨t + 1, htl, by go_num, by rw [HE.out], by rw [HE.out]; exact HO2, HB2⟩, by simp only [intOf]; omega⟩
      · have g1 : ((x : Int) != (k : Int)) = true := bne_iff_ne.2 (by omega)
        have g2 : (x != k) = true := bne_iff_ne.2 hxk
        have HE : Hid (putS k (l.take (t + 1)) = (o1 ++ [x], d1)) := by rw [Hid, HPS.out, HST.out, if_neg hxk]
        clear hxk HPS HST HC HLEN
        have hown : (wc.alloc (.cells #[.int .u32 (x : Int)] 39)).ownsRow w.heap.size 39 1 u5 o1.length (keysV o1) := (HO2.out.keep ((Below.refl _ _).alloc (Nat.le_refl _) _) : OwnK _ _ _ _)
        have hbs : w.heap.size ≤ (wc.alloc (.cells #[.int .u32 (x : Int)] 39)).heap.size := by have := HB2.out.size; simp; omega
        go_wp2_with (at_builtin; with_reducible refine wpList_append_own _ rfl _ _ 30 rfl w.heap.size 39 i0 z0 1 4 Tryz.underlying30 HI.out hz0 hz1 hz2 hz3 (by decide) u5 o1.length (keysV o1) rfl hown ⟨wc.heap.size, 0, none⟩ 1 1 [.int .u32 ((x : Nat) : Int)] rfl rfl (one_cell wc x) ?c1 ?c2 ?c3 ?c4 ?_)
        case c1 => intro u hu; rw [List.mem_singleton.1 hu]; rfl
        case c2 => unfold maxLen; omega
        case c3 => omega
        case c4 => exact hbs
        intro v' w2 ho2 hg _
        have HO3 : Hid (OwnK w2 w.heap.size v' (o1 ++ [x])) := own_more ho2
        have HB3 : Hid (Below w.heap.size w w2) := grown_below (w1 := wc.alloc (.cells #[.int .u32 (x : Int)] 39)) hown hg (HB2.out.alloc HB2.out.size _) (Nat.le_refl _)
        clear ho2 hg hown hbs
        go_wp2
        exact ⟨⟨t + 1, htl, by go_num, by rw [HE.out], by rw [HE.out]; exact HO3, HB3⟩, by simp only [intOf]; omega⟩
    · have et : t = l.length := by omega
      subst et
      rw [List.take_length] at *
      have hln := HLEN.out l.length
      rw [List.take_length] at hln
      have HP : Hid (putL l k = if (putS k l).2 then (putS k l).1 else (putS k l).1 ++ [k]) := rfl
      have HI := hid_mk hi
      clear HC HLEN hi
      generalize putS k l = S at *
      obtain ⟨o, d⟩ := S
      dsimp only at HO hln HP ⊢
      cases d with
      | true =>
        have HE : Hid (putL l k = o) := HP.out
        clear HP
        go_wp2
        go_ret
        exact ⟨_, rfl, by rw [HE.out]; exact HO.out, HB.out⟩
      | false =>
        have HE : Hid (putL l k = o ++ [k]) := HP.out
        clear HP
        have hown : (wr.alloc (.cells #[.int .u32 (k : Int)] 39)).ownsRow w.heap.size 39 1 u5 o.length (keysV o) := (HO.out.keep ((Below.refl _ _).alloc (Nat.le_refl _) _) : OwnK _ _ _ _)
        have hbs : w.heap.size ≤ (wr.alloc (.cells #[.int .u32 (k : Int)] 39)).heap.size := by have := HB.out.size; simp; omega
        go_wp2_with (at_builtin; with_reducible refine wpList_append_own _ rfl _ _ 30 rfl w.heap.size 39 i0 z0 1 4 Tryz.underlying30 HI.out hz0 hz1 hz2 hz3 (by decide) u5 o.length (keysV o) rfl hown ⟨wr.heap.size, 0, none⟩ 1 1 [.int .u32 ((k : Nat) : Int)] rfl rfl (one_cell wr k) ?c1 ?c2 ?c3 ?c4 ?_)
        case c1 => intro u hu; rw [List.mem_singleton.1 hu]; rfl
        case c2 => unfold maxLen; omega
        case c3 => omega
        case c4 => exact hbs
        intro v' w2 ho2 hg _
        have HO3 : Hid (OwnK w2 w.heap.size v' (o ++ [k])) := own_more ho2
        have HB3 : Hid (Below w.heap.size w w2) := grown_below (w1 := wr.alloc (.cells #[.int .u32 (k : Int)] 39)) hown hg (HB.out.alloc HB.out.size _) (Nat.le_refl _)
        clear ho2 hg hown hbs
        go_wp2
        go_ret
        exact ⟨_, rfl, by rw [HE.out]; exact HO3.out, HB3.out⟩
end Go.Proofs.YtdiljkmlneeboaaGreat.B
namespace Go.Proofs.YtdiljkmlneeboaaGreat.B
open Go.RowKit
set_option maxRecDepth 100000

theorem putS_len1 (k : Nat) : ∀ (l : List Nat) (s : List Nat × Bool), (l.foldl (stepP k) s).1.length + (if s.2 then 1 else 0) ≤ s.1.length + l.length + (if (l.foldl (stepP k) s).2 then 1 else 0)
  | [], s => by rw [List.foldl_nil, List.length_nil]; omega
  | x :: l, s => by
    have h := putS_len1 k l (stepP k s x)
    rw [List.foldl_cons]
    have h2 : (stepP k s x).1.length + (if s.2 then 1 else 0) ≤ s.1.length + 1 + (if (stepP k s x).2 then 1 else 0) := by
      obtain ⟨o, d⟩ := s
      unfold stepP
      dsimp only
      cases d <;> split <;> split <;> simp_all
    rw [List.length_cons]
    omega
theorem putL_len (l : List Nat) (k : Nat) : (putL l k).length ≤ l.length + 1 := by
  have h := putS_len1 k l ([], false)
  unfold putL
  have e : putS k l = l.foldl (stepP k) ([], false) := rfl
  rw [← e] at h
  simp only [List.length_nil] at h
  split
  · rename_i h1
    rw [h1] at h
    simp at h
    omega
  · rename_i h1
    rw [List.length_append, List.length_singleton]
    simp [h1] at h
    omega
/-- Keys put in, one behind the other. -/
def putsL (l : List Nat) : List Nat := l.foldl putL []
theorem puts_app (l m : List Nat) : putsL (l ++ m) = m.foldl putL (putsL l) := List.foldl_append
theorem puts_one (l : List Nat) (k : Nat) : putsL (l ++ [k]) = putL (putsL l) k := puts_app l [k]
theorem puts_len' : ∀ (l : List Nat) (m : List Nat), (l.foldl putL m).length ≤ m.length + l.length
  | [], m => by simp
  | k :: l, m => by
    rw [List.foldl_cons, List.length_cons]
    have := puts_len' l (putL m k)
    have := putL_len m k
    omega
theorem puts_len (l : List Nat) : (putsL l).length ≤ l.length := by have := puts_len' l []; simpa [putsL] using this
theorem OwnK.low {w : World} {B B' : Nat} {v : Value} {l : List Nat} (h : OwnK w B v l) (hb : B' ≤ B) : OwnK w B' v l := by
  obtain ⟨h1, h2⟩ := h
  exact ⟨h1, h2.imp id fun ⟨g, cap, cur, a, b, c, d⟩ => ⟨g, cap, cur, a, Nat.le_trans hb b, c, d⟩⟩

theorem range_len {f : Nat → List Nat} {i : Nat} : ∀ {n : Nat}, i ≤ n → ((List.range i).flatMap f).length ≤ ((List.range n).flatMap f).length
  | 0, h => by rw [Nat.le_zero.1 h]; exact Nat.le_refl _
  | n + 1, h => by
    rcases Nat.lt_or_ge i (n + 1) with h1 | h1
    · rw [range_flat n, List.length_append]
      exact Nat.le_trans (range_len (n := n) (by omega)) (by omega)
    · rw [show i = n + 1 by omega]
      exact Nat.le_refl _
theorem keysP_take (p : List (S6 × List Cx)) (t : Nat) : (keysP (p.take t)).length ≤ (keysP p).length := (((List.take_sublist t p).filter _).map _).length_le

end Go.Proofs.YtdiljkmlneeboaaGreat.B
namespace Go.Proofs.YtdiljkmlneeboaaGreat.B
open Go.RowKit
set_option maxRecDepth 100000

theorem stepP_mem (k : Nat) (s : List Nat × Bool) (x y : Nat) : y ∈ (stepP k s x).1 ↔ y ∈ s.1 ∨ (y = x ∧ x ≠ k) ∨ (y = k ∧ s.2 = false ∧ (stepP k s x).2 = true) := by
  obtain ⟨o, d⟩ := s
  unfold stepP
  dsimp only
  by_cases h1 : k ≤ x ∧ d = false
  · rw [if_pos h1, if_pos h1]
    by_cases h2 : x = k
    · rw [if_pos h2, List.mem_append, List.mem_singleton]
      simp [h2, h1.2]
    · rw [if_neg h2, List.mem_append, List.mem_append, List.mem_singleton, List.mem_singleton]
      simp only [h1.2, h2, ne_eq, not_false_eq_true, and_true]
      constructor
      · rintro ((h | h) | h)
        · exact .inl h
        · exact .inr (.inr h)
        · exact .inr (.inl h)
      · rintro (h | h | h)
        · exact .inl (.inl h)
        · exact .inr h
        · exact .inl (.inr h)
  · rw [if_neg h1, if_neg h1]
    by_cases h2 : x = k
    · rw [if_pos h2]
      cases d <;> simp [h2]
    · rw [if_neg h2, List.mem_append, List.mem_singleton]
      cases d <;> simp [h2]
theorem stepP_more (k : Nat) (s : List Nat × Bool) (x : Nat) (h : s.2 = true) : (stepP k s x).2 = true := by
  unfold stepP
  dsimp only
  split
  · rfl
  · exact h
theorem foldP_more (k : Nat) : ∀ (l : List Nat) (s : List Nat × Bool), s.2 = true → (l.foldl (stepP k) s).2 = true
  | [], _, h => h
  | x :: l, s, h => foldP_more k l _ (stepP_more k s x h)
theorem foldP_mem (k : Nat) : ∀ (l : List Nat) (s : List Nat × Bool) (y : Nat), y ∈ (l.foldl (stepP k) s).1 ↔ y ∈ s.1 ∨ (y ∈ l ∧ y ≠ k) ∨ (y = k ∧ s.2 = false ∧ (l.foldl (stepP k) s).2 = true)
  | [], s, y => by
    rw [List.foldl_nil]
    constructor
    · exact .inl
    · rintro (h | h | ⟨_, h, h2⟩)
      · exact h
      · exact absurd h.1 (by simp)
      · rw [h] at h2; cases h2
  | x :: l, s, y => by
    rw [List.foldl_cons, foldP_mem k l, stepP_mem, List.mem_cons]
    constructor
    · rintro ((h | ⟨h, h2⟩ | ⟨h, h2, h3⟩) | h | ⟨h, h2, h3⟩)
      · exact .inl h
      · exact .inr (.inl ⟨.inl h, by rw [h]; exact h2⟩)
      · exact .inr (.inr ⟨h, h2, foldP_more k l _ h3⟩)
      · exact .inr (.inl ⟨.inr h.1, h.2⟩)
      · refine .inr (.inr ⟨h, ?_, h3⟩)
        cases hs : s.2 with
        | false => rfl
        | true => rw [stepP_more k s x hs] at h2; cases h2
    · rintro (h | ⟨h | h, h2⟩ | ⟨h, h2, h3⟩)
      · exact .inl (.inl h)
      · exact .inl (.inr (.inl ⟨h, by rw [← h]; exact h2⟩))
      · exact .inr (.inl ⟨h, h2⟩)
      · cases hs : (stepP k s x).2 with
        | false => exact .inr (.inr ⟨h, rfl, h3⟩)
        | true => exact .inl (.inr (.inr ⟨h, h2, rfl⟩))
/-- Who is among them. -/
theorem putL_mem (l : List Nat) (k y : Nat) : y ∈ putL l k ↔ y = k ∨ y ∈ l := by
  have h := foldP_mem k l ([], false) y
  unfold putL
  have e : putS k l = l.foldl (stepP k) ([], false) := rfl
  rw [← e] at h
  split
  · rename_i h1
    rw [h, h1]
    simp only [List.not_mem_nil, false_or, and_true]
    by_cases hy : y = k <;> simp [hy]
  · rename_i h1
    rw [List.mem_append, h, List.mem_singleton]
    by_cases hy : y = k <;> simp [hy, h1]
theorem puts_mem' : ∀ (l m : List Nat) (y : Nat), y ∈ l.foldl putL m ↔ y ∈ m ∨ y ∈ l
  | [], m, y => by simp
  | k :: l, m, y => by
    rw [List.foldl_cons, puts_mem' l, putL_mem, List.mem_cons]
    constructor
    · rintro ((h | h) | h)
      · exact .inr (.inl h)
      · exact .inl h
      · exact .inr (.inr h)
    · rintro (h | h | h)
      · exact .inl (.inr h)
      · exact .inl (.inl h)
      · exact .inr h
theorem puts_mem (l : List Nat) (y : Nat) : y ∈ putsL l ↔ y ∈ l := by
  unfold putsL
  rw [puts_mem']
  simp
/-- They rise. -/
theorem foldP_rise (k : Nat) : ∀ (l : List Nat) (s : List Nat × Bool), l.Pairwise (· < ·) → s.1.Pairwise (· < ·) → (∀ a ∈ s.1, ∀ x ∈ l, a < x ∨ (a = k ∧ x = k)) → (s.2 = true → ∀ x ∈ l, k ≤ x) → (s.2 = false → ∀ a ∈ s.1, a < k) →
    (l.foldl (stepP k) s).1.Pairwise (· < ·) ∧ ((l.foldl (stepP k) s).2 = false → ∀ a ∈ (l.foldl (stepP k) s).1, a < k)
  | [], s, _, h2, _, _, h5 => ⟨h2, h5⟩
  | x :: l, s, h1, h2, h3, h4, h5 => by
    rw [List.foldl_cons]
    have h1' := List.pairwise_cons.1 h1
    obtain ⟨o, d⟩ := s
    dsimp only at h2 h3 h4 h5
    have ho : ∀ a ∈ o, x ≠ k → a < x := fun a ha hx => (h3 a ha x (by simp)).elim id fun h => absurd h.2 hx
    have hcase : stepP k (o, d) x = (if x = k then (if k ≤ x ∧ d = false then o ++ [k] else o) else (if k ≤ x ∧ d = false then o ++ [k] else o) ++ [x], if k ≤ x ∧ d = false then true else d) := rfl
    by_cases c1 : k ≤ x ∧ d = false
    · rw [if_pos c1, if_pos c1] at hcase
      have hok : (o ++ [k]).Pairwise (· < ·) := by
        rw [List.pairwise_append]
        exact ⟨h2, by simp, fun a ha b hb => by rw [List.mem_singleton.1 hb]; exact h5 c1.2 a ha⟩
      by_cases c2 : x = k
      · rw [if_pos c2] at hcase
        rw [hcase]
        refine foldP_rise k l _ h1'.2 hok (fun a ha y hy => .inl ?_) (fun _ y hy => ?_) (fun h => by cases h)
        · have := h1'.1 y hy
          rcases List.mem_append.1 ha with ha | ha
          · have := h5 c1.2 a ha; omega
          · have := List.mem_singleton.1 ha; omega
        · have := h1'.1 y hy; omega
      · rw [if_neg c2] at hcase
        rw [hcase]
        have hall : (o ++ [k] ++ [x]).Pairwise (· < ·) := by
          rw [List.pairwise_append]
          refine ⟨hok, by simp, fun a ha b hb => ?_⟩
          rw [List.mem_singleton.1 hb]
          rcases List.mem_append.1 ha with ha | ha
          · exact ho a ha c2
          · have := List.mem_singleton.1 ha; omega
        refine foldP_rise k l _ h1'.2 hall (fun a ha y hy => .inl ?_) (fun _ y hy => ?_) (fun h => by cases h)
        · have hxy := h1'.1 y hy
          rcases List.mem_append.1 ha with ha | ha
          · rcases List.mem_append.1 ha with ha | ha
            · have := ho a ha c2; omega
            · have := List.mem_singleton.1 ha; omega
          · have := List.mem_singleton.1 ha; omega
        · have := h1'.1 y hy; omega
    · rw [if_neg c1, if_neg c1] at hcase
      by_cases c2 : x = k
      · rw [if_pos c2] at hcase
        rw [hcase]
        have hd : d = true := by
          cases d with
          | true => rfl
          | false => exact absurd ⟨by omega, rfl⟩ c1
        refine foldP_rise k l _ h1'.2 h2 (fun a ha y hy => ?_) (fun _ y hy => ?_) (fun h => by dsimp only at h; rw [hd] at h; cases h)
        · have hxy := h1'.1 y hy
          rcases h3 a ha x (by simp) with h | h
          · exact .inl (by omega)
          · exact .inl (by omega)
        · have := h1'.1 y hy; omega
      · rw [if_neg c2] at hcase
        rw [hcase]
        have hall : (o ++ [x]).Pairwise (· < ·) := by
          rw [List.pairwise_append]
          exact ⟨h2, by simp, fun a ha b hb => by rw [List.mem_singleton.1 hb]; exact ho a ha c2⟩
        refine foldP_rise k l _ h1'.2 hall (fun a ha y hy => .inl ?_) (fun hd y hy => h4 hd y (by simp [hy])) (fun hd a ha => ?_)
        · have hxy := h1'.1 y hy
          rcases List.mem_append.1 ha with ha | ha
          · have := ho a ha c2; omega
          · have := List.mem_singleton.1 ha; omega
        · dsimp only at hd
          have : ¬ k ≤ x := fun h => c1 ⟨h, hd⟩
          rcases List.mem_append.1 ha with ha | ha
          · exact h5 hd a ha
          · have := List.mem_singleton.1 ha; omega
theorem putL_rise (l : List Nat) (k : Nat) (h : l.Pairwise (· < ·)) : (putL l k).Pairwise (· < ·) := by
  have h1 := foldP_rise k l ([], false) h .nil (by simp) (by simp) (by simp)
  unfold putL
  have e : putS k l = l.foldl (stepP k) ([], false) := rfl
  rw [← e] at h1
  split
  · exact h1.1
  · rename_i h2
    rw [List.pairwise_append]
    exact ⟨h1.1, by simp, fun a ha b hb => by rw [List.mem_singleton.1 hb]; exact h1.2 (by simpa using h2) a ha⟩
theorem puts_rise' : ∀ (l m : List Nat), m.Pairwise (· < ·) → (l.foldl putL m).Pairwise (· < ·)
  | [], _, h => h
  | k :: l, m, h => puts_rise' l _ (putL_rise m k h)
theorem puts_rise (l : List Nat) : (putsL l).Pairwise (· < ·) := puts_rise' l [] .nil
/-- Two that rise and have the same ones are the same. -/
theorem rise_ext : ∀ {l m : List Nat}, l.Pairwise (· < ·) → m.Pairwise (· < ·) → (∀ y, y ∈ l ↔ y ∈ m) → l = m
  | [], [], _, _, _ => rfl
  | [], b :: m, _, _, h => absurd ((h b).2 (by simp)) (by simp)
  | a :: l, [], _, _, h => absurd ((h a).1 (by simp)) (by simp)
  | a :: l, b :: m, h1, h2, h => by
    have h1' := List.pairwise_cons.1 h1
    have h2' := List.pairwise_cons.1 h2
    have hab : a = b := by
      have ha := (h a).1 (by simp)
      have hb := (h b).2 (by simp)
      rcases List.mem_cons.1 ha with e | ha
      · exact e
      · rcases List.mem_cons.1 hb with e | hb
        · exact e.symm
        · have := h2'.1 a ha
          have := h1'.1 b hb
          omega
    subst hab
    congr 1
    refine rise_ext h1'.2 h2'.2 fun y => ⟨fun hy => ?_, fun hy => ?_⟩
    · rcases List.mem_cons.1 ((h y).1 (by simp [hy])) with e | h3
      · have := h1'.1 y hy; omega
      · exact h3
    · rcases List.mem_cons.1 ((h y).2 (by simp [hy])) with e | h3
      · have := h2'.1 y hy; omega
      · exact h3
/-- Whether one of them lacks. -/
def lackB (f : Flt) (l : List Nat) : Bool := l.any fun k => !(f.add k).eqb f
theorem lack_take {f : Flt} {l : List Nat} {t : Nat} (h : t < l.length) : lackB f (l.take (t + 1)) = (lackB f (l.take t) || !(f.add l[t]).eqb f) := by
  unfold lackB
  rw [List.take_add_one, List.getElem?_eq_getElem h, Option.toList_some, List.any_append]
  simp
theorem lack_at {f : Flt} {l : List Nat} {t : Nat} (h : t < l.length) (hk : (f.add l[t]).eqb f = false) : lackB f l = true := by
  unfold lackB
  rw [List.any_eq_true]
  exact ⟨l[t], List.getElem_mem h, by rw [hk]; rfl⟩
theorem asks_lt {c : Cx} {k : Nat} (h : k ∈ asksL c) : k < 4294967296 := by
  unfold asksL at h
  split at h
  · obtain ⟨i, _, h2⟩ := List.mem_flatMap.1 h
    unfold asksI at h2
    split at h2
    · unfold keysP at h2
      obtain ⟨x, _, rfl⟩ := List.mem_map.1 h2
      exact keyAt_lt (by decide) _ _
    · exact absurd h2 (by simp)
  · exact absurd h (by simp)

end Go.Proofs.YtdiljkmlneeboaaGreat.B
namespace Go.Proofs.YtdiljkmlneeboaaGreat.B
open Go.RowKit
set_option maxRecDepth 100000

/-- A slice in which these keys lie. -/
def RdK (W : World) (v : Value) (l : List Nat) : Prop := ∃ a c, v = .slice a l.length c ∧ l.length ≤ c ∧ c ≤ 9223372036854775807 ∧ ∀ t (ht : t < l.length), ∃ g o, a = some ⟨g, o, none⟩ ∧ g < W.heap.size ∧ W.cell? ⟨g, o + t, none⟩ = some (.int .u32 ((l[t]'ht : Nat) : Int))
theorem OwnK.rd {w : World} {B : Nat} {v : Value} {l : List Nat} (h : OwnK w B v l) : RdK w v l := by
  obtain ⟨a, c, h1, h2, h3, h4⟩ := h.at
  refine ⟨a, c, h1, h2, h3, fun t ht => ?_⟩
  obtain ⟨g, e, hg, hc⟩ := h4 t ht
  exact ⟨g, 0, e, hg, by rw [Nat.zero_add]; exact hc⟩
theorem take_eq_succ {l m : List Nat} {t : Nat} (hl : t < l.length) (hm : t < m.length) (h : l.take t = m.take t) : (l.take (t + 1) = m.take (t + 1)) ↔ l[t] = m[t] := by
  have e1 : l.take (t + 1) = l.take t ++ [l[t]] := by rw [List.take_add_one, List.getElem?_eq_getElem hl, Option.toList_some]
  have e2 : m.take (t + 1) = m.take t ++ [m[t]] := by rw [List.take_add_one, List.getElem?_eq_getElem hm, Option.toList_some]
  rw [e1, e2, h, List.append_cancel_left_eq]
  simp

set_option maxHeartbeats 1000000 in
theorem rsame_any {w : World} {v u : Value} {l m : List Nat} (hv : RdK w v l) (hu : RdK w u m) : Calls Tryz.prog 8 #[v, u] w fun e w' => e = .returned (.bool (decide (l = m))) ∧ Below w.heap.size w w' := by
  obtain ⟨a, c, rfl, hlc, hcm, hca⟩ := hv
  obtain ⟨b, d, rfl, hld, hdm, hcb⟩ := hu
  by_cases hl : l.length = m.length
  · have hne : ((l.length : Int) != (m.length : Int)) = false := by rw [bne_eq_false_iff_eq]; omega
    have HCA := hid_mk hca
    have HCB := hid_mk hcb
    have HL := hid_mk hl
    have hll : l.length ≤ 9223372036854775807 := by omega
    have HB0 := hid_mk (Below.refl w.heap.size w)
    clear hca hcb hl
    go_enter Tryz.func8, Tryz.ntmps8
    go_wp2
    go_loopw [13] (fun a9 wq => ∃ t : Nat, t ≤ l.length ∧ a9 = .int .i64 (t : Int) ∧ Hid (l.take t = m.take t) ∧ Hid (Below w.heap.size w wq)) (fun a9 _ => l.length + 1 - (intOf a9).toNat)
    case atStart => exact ⟨0, Nat.zero_le _, rfl, rfl, HB0⟩
    case round =>
      obtain ⟨t, ht, rfl, HT, HB⟩ := hrel
      clear HB0
      by_cases htl : t < l.length
      · have htm : t < m.length := by have := HL.out; omega
        obtain ⟨g, o, rfl, hg1, q1'⟩ := HCA.out t htl
        have q1 := (HB.out.cell (p := ⟨g, o + t, none⟩) hg1).trans q1'
        obtain ⟨h2, o2, rfl, hg2, q2'⟩ := HCB.out t htm
        have q2 := (HB.out.cell (p := ⟨h2, o2 + t, none⟩) hg2).trans q2'
        have HS := hid_mk (take_eq_succ htl htm HT.out)
        have HF : Hid (l[t] ≠ m[t] → decide (l = m) = false) := fun h => decide_eq_false fun e => h (by subst e; rfl)
        clear HCA HCB HT q1' q2'
        generalize l[t] = x at *
        generalize m[t] = y at *
        by_cases hxy : x = y
        · have HZ : Hid (l.take (t + 1) = m.take (t + 1)) := HS.out.2 hxy
          have g1 : ((x : Int) != (y : Int)) = false := by simp [hxy]
          have g2 : (x != y) = false := by simp [hxy]
          clear HS HF hxy
          go_upto_region 6 with (fail)
          go_quiet (fail)
          go_wp2
          exact ⟨⟨t + 1, htl, by go_num, HZ, ⟨HB.out.os, HB.out.tape, HB.out.output, HB.out.size, HB.out.block⟩⟩, by simp only [intOf]; omega⟩
        · have HZ := hid_mk (HF.out hxy)
          have g1 : ((x : Int) != (y : Int)) = true := bne_iff_ne.2 (by omega)
          have g2 : (x != y) = true := bne_iff_ne.2 hxy
          clear HS HF hxy
          go_upto_region 6 with (fail)
          go_quiet (fail)
          go_wp2
          go_ret
          exact ⟨by rw [HZ.out]; rfl, ⟨HB.out.os, HB.out.tape, HB.out.output, HB.out.size, HB.out.block⟩⟩
      · obtain rfl : t = l.length := by omega
        have HZ : Hid (decide (l = m) = true) := by
          have h := HT.out
          have h2 := HL.out
          rw [List.take_length, h2, List.take_length] at h
          exact decide_eq_true h
        clear HCA HCB HT
        go_wp2
        go_ret
        exact ⟨by rw [HZ.out]; rfl, HB.out⟩
  · have hne : ((l.length : Int) != (m.length : Int)) = true := bne_iff_ne.2 (by omega)
    have HZ : Hid (decide (l = m) = false) := decide_eq_false fun e => hl (by rw [e])
    clear hl hca hcb
    go_enter Tryz.func8, Tryz.ntmps8
    go_wp2
    go_ret
    exact ⟨by rw [HZ.out]; rfl, Below.refl _ _⟩
end Go.Proofs.YtdiljkmlneeboaaGreat.B
namespace Go.Proofs.YtdiljkmlneeboaaGreat.B
open Go.RowKit
set_option maxRecDepth 100000

/-- What a call that appends to a variable's slice keeps. -/
structure KeepB (b B : Nat) (w w' : World) : Prop where
  os : w'.os = w.os
  tape : w'.tape = w.tape
  output : w'.output = w.output
  size : w.heap.size ≤ w'.heap.size
  block : ∀ j, j < B → j ≠ b → w'.heap[j]? = w.heap[j]?

theorem OwnK.off {w w' : World} {B : Nat} {v : Value} {l : List Nat} (h : OwnK w B v l) (hb : ∀ j, B ≤ j → w'.heap[j]? = w.heap[j]?) : OwnK w' B v l := by
  obtain ⟨h1, h2⟩ := h
  refine ⟨h1, h2.imp id fun ⟨g, cap, cur, a, b, c, d⟩ => ⟨g, cap, cur, a, b, (hb g b).trans c, d⟩⟩

set_option maxHeartbeats 1000000 in
theorem tellK {w : World} {b B : Nat} {v : Value} {l : List Nat} (h : w.heap[b]? = some (.cells #[v] 30 (0, 0))) (ho : OwnK w B v l) (hb : b < B) (hB : B ≤ w.heap.size) (hl : l.length ≤ 1000000) (k : Nat) :
    Calls Tryz.prog 69 #[.int .u32 (k : Nat), .pointer (some ⟨b, 0, none⟩)] w fun e w' => e = .returned (.tuple #[]) ∧ (∃ v', w'.heap[b]? = some (.cells #[v'] 30 (0, 0)) ∧ OwnK w' B v' (l ++ [k])) ∧ KeepB b B w w' := by
  obtain ⟨i0, z0, hi, hz0, hz1, hz2, hz3⟩ := info25
  have hbl : b < w.heap.size := (Array.getElem?_eq_some_iff.1 h).1
  have c0 : w.cell? ⟨b, 0, none⟩ = some v := cellAt h 0
  have hown : (w.alloc (.cells #[.int .u32 (k : Int)] 39)).ownsRow B 39 1 v l.length (keysV l) := (ho.keep ((Below.refl _ _).alloc (Nat.le_refl _) _) : OwnK _ _ _ _)
  obtain ⟨a, c, rfl, hlc, hcm, _⟩ := ho.at
  have HH := hid_mk h
  have HO := hid_mk ho
  clear h ho
  go_enter Tryz.func69, Tryz.ntmps69
  go_wp2_with (at_builtin; with_reducible refine wpList_append_own _ rfl _ _ 30 rfl B 39 i0 z0 1 4 Tryz.underlying30 hi hz0 hz1 hz2 hz3 (by decide) (.slice a l.length c) l.length (keysV l) rfl hown ⟨w.heap.size, 0, none⟩ 1 1 [.int .u32 ((k : Nat) : Int)] rfl rfl (one_cell w k) ?c1 ?c2 ?c3 ?c4 ?_)
  case c1 => intro u hu; rw [List.mem_singleton.1 hu]; rfl
  case c2 => unfold maxLen; omega
  case c3 => omega
  case c4 => simp; omega
  intro v' w2 ho2 hg _
  have hO2 : OwnK w2 B v' (l ++ [k]) := own_more ho2
  have hblk : ∀ j, j < B → w2.heap[j]? = w.heap[j]? := fun j hj => by
    rw [hg.block j (by simp; omega) (fun e => by have := (hown.lt j e.symm).1; omega), Below.heap_alloc _ _ _ (by omega)]
  have hb2 : w2.heap[b]? = some (.cells #[.slice a l.length c] 30 (0, 0)) := (hblk b hb).trans HH.out
  have hos : w2.os = w.os := hg.os
  have hta : w2.tape = w.tape := hg.tape
  have hou : w2.output = w.output := hg.output
  have hsz : w.heap.size ≤ w2.heap.size := Nat.le_trans (by simp) hg.size
  have m0 : w2.cell? ⟨b, 0, none⟩ = some (.slice a l.length c) := cellAt hb2 0
  have m1 : w2.frozen? ⟨b, 0, none⟩ = false := by simp [World.frozen?, hb2]
  have HB2 := hid_mk hb2
  have HO2 := hid_mk hO2
  have HBK := hid_mk hblk
  clear ho2 hg hb2 hown c0 HH hi hz0 hz1 hz2 hz3 hblk hO2
  obtain ⟨a', c', rfl, hlc', hcm', _⟩ := HO2.out.at
  have HLN : Hid ((l ++ [k]).length = l.length + 1) := by rw [Hid, List.length_append, List.length_singleton]
  rw [HLN.out] at HO2 hlc' ⊢
  go_wp2
  have hset : ∀ j, j ≠ b → (w2.setCell ⟨b, 0, none⟩ (.slice a' (l.length + 1) c')).heap[j]? = w2.heap[j]? := fun j hj => Below.heap_setCell _ _ _ _ hj
  refine bodyPost_end (v := .tuple #[]) (by simp [results, Tryz.results69, go_sem]) rfl ⟨rfl, ⟨.slice a' (l.length + 1) c', ?_, ?_⟩, ⟨hos, hta, hou, by simpa using hsz, fun j hj hn => (hset j hn).trans (HBK.out j hj)⟩⟩
  · rw [set_at 0 _ _ HB2.out]
    rfl
  · exact HO2.out.off fun j hj => hset j (by omega)

set_option maxHeartbeats 4000000 in
theorem asksH_27 {J : List Nat → World → Prop} (HJ : Hid (∀ l w w', J l w → Below w.heap.size w w' → J l w')) {pv cv : Value} {c : Cx} {bc oc bp op : Nat} {qv : Nat → Value} {bq oq : Nat → Nat} {lv : Nat → Nat → Value}
    (HD : Hid (∀ l w, J l w → CxAt (ClAt w) w pv cv c bc oc bp op qv bq oq lv)) (HN : Hid (∀ p ∈ c.parts, ∀ x ∈ p, x.1.nm.size ≤ 140737488351232)) (hlc : c.parts.length ≤ 100000000000000) {b : Nat}
    {N : Nat} (HT : Hid (∀ l w k, k < 4294967296 → l.length ≤ N → J l w → Calls Tryz.prog 69 #[.int .u32 ((k : Nat) : Int), .pointer (some ⟨b, 0, none⟩)] w fun e w' => e = .returned (.tuple #[]) ∧ J (l ++ [k]) w'))
    {w : World} {l : List Nat} (hN : l.length + (asksL c).length ≤ N) (h : J l (w.alloc (.cells #[pv, cv] 45))) (HXJ : Hid (∀ l W, J l W → W.heap[w.heap.size]? = some (.cells #[pv, cv] 45 (0, 0)))) : Calls Tryz.prog 41 #[.agg #[pv, cv], .func (.func 69) #[] #[.pointer (some ⟨b, 0, none⟩)]] w fun e w' => e = .returned (.tuple #[]) ∧ J (l ++ asksL c) w' := by
  have hd := HD.out l _ h
  have HNN := hid_mk hN
  clear hN
  obtain ⟨ca, cc, rfl, hcn, hcm, _⟩ := hd.cs
  obtain ⟨pa, pc, rfl, hpn, hpm, _⟩ := hd.ps
  obtain ⟨w0, hw0⟩ : ∃ w0, w0 = w.alloc (.cells #[.slice pa c.parts.length pc, .slice ca c.combs.length cc] 45) := ⟨_, rfl⟩
  have hB0 : Below w.heap.size w w0 := by rw [hw0]; exact (Below.refl _ _).alloc (Nat.le_refl _) _
  have HX0 : Hid (w0.heap[w.heap.size]? = some (.cells #[.slice pa c.parts.length pc, .slice ca c.combs.length cc] 45 (0, 0))) := by rw [Hid, hw0]; exact heap_alloc_last w _
  have HJ0 : Hid (J l w0) := by rw [Hid, hw0]; exact h
  have HBC : Hid (∀ W : World, W.heap[w.heap.size]? = some (.cells #[.slice pa c.parts.length pc, .slice ca c.combs.length cc] 45 (0, 0)) → W.cell? ⟨w.heap.size, 0, none⟩ = some (.slice pa c.parts.length pc) ∧ W.cell? ⟨w.heap.size, 1, none⟩ = some (.slice ca c.combs.length cc)) := fun W hW => ⟨cellAt hW 0, cellAt hW 1⟩
  have HW0 := hid_mk hw0
  by_cases hl : c.combs.length + 1 = c.parts.length
  · have HL : Hid (asksL c = (List.range c.combs.length).flatMap (asksI c)) := by rw [Hid]; unfold asksL; rw [if_pos hl]
    have hne : ((c.combs.length : Int) != (c.parts.length : Int) - 1) = false := by
      rw [bne_eq_false_iff_eq]; omega
    have HCS := hid_mk hd.cs
    have HPS := hid_mk hd.ps
    have HHL := hid_mk hl
    have hcl : c.combs.length ≤ 100000000000000 := by omega
    obtain ⟨b0, b1⟩ := HBC.out w0 HX0.out
    clear hl hd h
    go_enter Tryz.func41, Tryz.ntmps41
    go_upto_region 1 with (fail)
    rw [← HW0.out]
    clear hw0 HW0 hB0
    go_wp2
    clear b0 b1
    go_loopw [19] (fun a19 wq => ∃ i : Nat, i ≤ c.combs.length ∧ a19 = .int .i64 (i : Int) ∧ Hid (J (l ++ (List.range i).flatMap (asksI c)) wq) ∧ Hid (wq.heap[w.heap.size]? = some (.cells #[.slice pa c.parts.length pc, .slice ca c.combs.length cc] 45 (0, 0)))) (fun a19 _ => c.combs.length + 1 - (intOf a19).toNat)
    case atStart => exact ⟨0, Nat.zero_le _, rfl, by simpa using HJ0, HX0⟩
    case round =>
      obtain ⟨i, hi, rfl, HJi, HXi⟩ := hrel
      clear HJ0 HX0
      by_cases hil : i < c.combs.length
      · have hdi := HD.out _ _ HJi.out
        obtain ⟨_, _, e1, _, _, hca⟩ := HCS.out
        obtain ⟨rfl, _⟩ : ca = some ⟨bc, oc, none⟩ ∧ True := by cases e1; exact ⟨(hca (by omega)).1, trivial⟩
        have q1 := hdi.cc i hil
        have hip : i < c.parts.length := by have := HHL.out; omega
        obtain ⟨_, _, e2, _, _, hpa⟩ := HPS.out
        obtain ⟨rfl, _⟩ : pa = some ⟨bp, op, none⟩ ∧ True := by cases e2; exact ⟨(hpa (by omega)).1, trivial⟩
        have q2 := hdi.pc i hip
        obtain ⟨qa, qc, e3, hqn, hqm, hqa⟩ := hdi.qs i hip
        rw [e3] at q2
        obtain ⟨p, hp⟩ : ∃ p, p = c.parts[i] := ⟨_, rfl⟩
        rw [← hp] at q2 hqn hqa
        have HAI : Hid (asksI c i = if c.combs[i] = 1 ∨ c.combs[i] = 2 then keysP p else []) := by
          rw [Hid]
          unfold asksI
          rw [List.getD_eq_getElem?_getD, List.getElem?_eq_getElem hil, List.getD_eq_getElem?_getD, List.getElem?_eq_getElem hip, hp]
          rfl
        have HRF : Hid ((List.range (i + 1)).flatMap (asksI c) = (List.range i).flatMap (asksI c) ++ asksI c i) := range_flat i
        have HPN : Hid (∀ t (h : t < p.length), p[t].1.nm.size ≤ 140737488351232) := fun t h => HN.out p (by rw [hp]; exact List.getElem_mem hip) _ (List.getElem_mem h)
        have HQA := hid_mk hqa
        have HQD : Hid (∀ L W, J L W → ∀ t (h : t < p.length), ∀ y u, (s7 p[t].1 (lv i t))[y]? = some u → W.cell? ⟨bq i, oq i + t * 7 + y, none⟩ = some u) := fun L W hJW t h y u hu => by
          subst hp
          exact (HD.out L W hJW).qc i hip t h y u hu
        have HLS : Hid (∀ t, t < p.length → ∃ la ln lc, lv i t = .slice la ln lc) := fun t h => by
          subst hp
          obtain ⟨_, _, ⟨la, lc, e, _⟩, _⟩ := (hdi.ls i hip t h).at
          exact ⟨la, _, lc, e⟩
        have hpl : p.length ≤ 9223372036854775807 := by omega
        obtain ⟨b0, b1⟩ := HBC.out wr HXi.out
        clear hdi hca hpa e1 e2 e3 hp hqa HN HCS HPS HD
        obtain ⟨cb, hcb⟩ : ∃ cb, cb = c.combs[i] := ⟨_, rfl⟩
        rw [← hcb] at q1 HAI
        clear hcb
        by_cases hcc : cb = 1 ∨ cb = 2
        · have HAE : Hid (asksI c i = keysP p) := by rw [Hid, HAI.out, if_pos hcc]
          clear HAI
          go_upto_region 5 with (fail)
          go_cut [29] (fun s29 wx => s29 = .bool false ∧ wx = wr)
          case first =>
            rcases hcc with rfl | rfl
            · go_wp2_with fail
              go_meet
              exact ⟨rfl, rfl⟩
            · go_wp2_with fail
              go_meet
              exact ⟨rfl, rfl⟩
          case rest =>
          obtain ⟨rfl, rfl⟩ := hcut
          clear hcc q1
          have HLT : Hid (∀ t, (l ++ (List.range i).flatMap (asksI c) ++ keysP (p.take t)).length ≤ N) := fun t => by
            have h1 := range_len (f := asksI c) (i := i + 1) (n := c.combs.length) hil
            rw [range_flat, List.length_append, HAE.out] at h1
            have h3 := keysP_take p t
            have h4 := HNN.out
            rw [HL.out] at h4
            rw [List.length_append, List.length_append]
            omega
          have HJS : Hid (J (l ++ (List.range i).flatMap (asksI c) ++ keysP (p.take 0)) wc) := by rw [Hid]; simpa [keysP] using HJi.out
          have HJE : Hid (∀ W, J (l ++ (List.range i).flatMap (asksI c) ++ keysP (p.take p.length)) W → J (l ++ (List.range (i + 1)).flatMap (asksI c)) W) := fun W h => by
            rw [List.take_length, List.append_assoc] at h
            rw [HRF.out, HAE.out]
            exact h
          clear HRF HAE
          generalize l ++ (List.range i).flatMap (asksI c) = L0 at *
          go_wp2
          clear b0 b1 q2
          go_loopw [36] (fun a36 wq => ∃ t : Nat, t ≤ p.length ∧ a36 = .int .i64 (t : Int) ∧ Hid (J (L0 ++ keysP (p.take t)) wq) ∧ Hid (wq.heap[w.heap.size]? = some (.cells #[.slice (some ⟨bp, op, none⟩) c.parts.length pc, .slice (some ⟨bc, oc, none⟩) c.combs.length cc] 45 (0, 0)))) (fun a36 _ => p.length + 1 - (intOf a36).toNat)
          case atStart => exact ⟨0, Nat.zero_le _, rfl, HJS, HXi⟩
          case round =>
            obtain ⟨t, ht, rfl, HJt, HXt⟩ := hrel
            clear HJS HXi HJi
            by_cases htl : t < p.length
            · obtain ⟨rfl, _⟩ := HQA.out (by omega)
              have hcell := HQD.out _ _ HJt.out t htl
              have hnm := HPN.out t htl
              have HKP := hid_mk (keysP_succ htl)
              obtain ⟨s, hs⟩ : ∃ s, s = p[t].1 := ⟨_, rfl⟩
              rw [← hs] at hcell hnm HKP
              obtain ⟨la, ln, lc, hlv⟩ := HLS.out t htl
              rw [hlv] at hcell
              have y0 := hcell 0 _ rfl
              have y1 := hcell 1 _ rfl
              have y2 := hcell 2 _ rfl
              have y3 := hcell 3 _ rfl
              have y4 := hcell 4 _ rfl
              have y5 := hcell 5 _ rfl
              have y6 := hcell 6 _ rfl
              rw [Nat.add_zero] at y0
              have hkd := keyed_any s (.slice la ln lc)
              unfold s7 at hkd
              obtain ⟨w1, hw1⟩ : ∃ w1, w1 = wr.alloc (.cells #[.int .i64 s.k, .string s.nm, .int .i64 s.op, .string s.v, .int .i64 s.a, .int .i64 s.b, .slice la ln lc] 55) := ⟨_, rfl⟩
              have hB1 : Below wr.heap.size wr w1 := by rw [hw1]; exact (Below.refl _ _).alloc (Nat.le_refl _) _
              have hS1 : w1.heap[wr.heap.size]? = some (.cells #[.int .i64 s.k, .string s.nm, .int .i64 s.op, .string s.v, .int .i64 s.a, .int .i64 s.b, .slice la ln lc] 55 (0, 0)) := by rw [hw1]; exact heap_alloc_last wr _
              have HXl : Hid (w.heap.size < wr.heap.size) := (Array.getElem?_eq_some_iff.1 HXt.out).1
              have hk1 := hkd w1
              have HJ1 := hid_mk (HJ.out _ _ _ HJt.out hB1)
              have HX1 : Hid (w1.heap[w.heap.size]? = some (.cells #[.slice (some ⟨bp, op, none⟩) c.parts.length pc, .slice (some ⟨bc, oc, none⟩) c.combs.length cc] 45 (0, 0))) := (hB1.block _ HXl.out).trans HXt.out
              have HW1 := hid_mk hw1
              have HS1 := hid_mk hS1
              clear hcell hkd hs hlv hw1 hB1 hS1
              go_wp2_with (go_at_call 79; fail)
              rw [← HW1.out]
              refine hk1.mono ?_
              rintro e w2 ⟨rfl, hB2⟩
              have HJ2 := hid_mk (HJ.out _ _ _ HJ1.out hB2)
              have hS2 := (hB2.block _ (Array.getElem?_eq_some_iff.1 HS1.out).1).trans HS1.out
              have HX2 : Hid (w2.heap[w.heap.size]? = some (.cells #[.slice (some ⟨bp, op, none⟩) c.parts.length pc, .slice (some ⟨bc, oc, none⟩) c.combs.length cc] 45 (0, 0))) := (hB2.block _ (Array.getElem?_eq_some_iff.1 HX1.out).1).trans HX1.out
              have x0 : w2.cell? ⟨wr.heap.size, 0, none⟩ = some (.int .i64 s.k) := cellAt hS2 0
              have x1 : w2.cell? ⟨wr.heap.size, 1, none⟩ = some (.string s.nm) := cellAt hS2 1
              clear hk1 hB2 hS2 HJ1 HS1 HX1 HW1 y0 y1 y2 y3 y4 y5 y6 HJt
              cases hkb : keyedB s with
              | false =>
                rw [hkb] at HKP
                have HJZ : Hid (J (L0 ++ keysP (p.take (t + 1))) w2) := by rw [Hid, HKP.out]; simpa using HJ2.out
                clear HKP hkb x0 x1 HT HJ HQD HPN HJ2
                go_wp2
                exact ⟨⟨t + 1, htl, by go_num, HJZ, HX2⟩, by simp only [intOf]; omega⟩
              | true =>
                rw [hkb] at HKP
                have hky := key_any s.k s.nm hnm w2
                have htell := HT.out _ w2 (keyS s) (keyAt_lt (by decide) _ _) (HLT.out t) HJ2.out
                unfold keyS at htell
                clear hkb HJ2
                go_wp2_with (go_at_call 21; fail)
                refine hky.mono ?_
                rintro e w3 ⟨rfl, rfl⟩
                clear hky
                go_wp2_with (go_at_call 69; fail)
                refine htell.mono ?_
                rintro e w4 ⟨rfl, hJ4⟩
                have HJZ : Hid (J (L0 ++ keysP (p.take (t + 1))) w4) := by
                  rw [Hid, HKP.out, ← List.append_assoc]
                  exact hJ4
                have HX4 : Hid (w4.heap[w.heap.size]? = some (.cells #[.slice (some ⟨bp, op, none⟩) c.parts.length pc, .slice (some ⟨bc, oc, none⟩) c.combs.length cc] 45 (0, 0))) := HXJ.out _ _ hJ4
                clear htell hJ4 x0 x1 HT HJ HXJ HQD HPN HKP HX2
                go_wp2
                exact ⟨⟨t + 1, htl, by go_num, HJZ, HX4⟩, by simp only [intOf]; omega⟩
            · obtain rfl : t = p.length := by omega
              have HJZ := hid_mk (HJE.out _ HJt.out)
              clear HT HJ HQD HPN HJE HQA HJt
              go_wp2
              exact ⟨⟨i + 1, hil, by go_num, HJZ, HXt⟩, by simp only [intOf]; omega⟩
        · have HAE : Hid (asksI c i = []) := by rw [Hid, HAI.out, if_neg hcc]
          have n1 : (cb != 1) = true := bne_iff_ne.2 fun h => hcc (.inl h)
          have n2 : (cb != 2) = true := bne_iff_ne.2 fun h => hcc (.inr h)
          clear hcc HAI HQD HPN HQA q2 b0 b1 HT HJ
          go_wp2
          exact ⟨⟨i + 1, hil, by go_num, by rw [Hid, HRF.out, HAE.out, List.append_nil]; exact HJi.out, HXi⟩, by simp only [intOf]; omega⟩
      · obtain rfl : i = c.combs.length := by omega
        clear HCS HPS HD HT HN HJ
        go_wp2
        exact bodyPost_end (v := .tuple #[]) (by simp [results, Tryz.results41, go_sem]) rfl ⟨rfl, by rw [HL.out]; exact HJi.out⟩
  · have HL : Hid (asksL c = []) := by rw [Hid]; unfold asksL; rw [if_neg hl]
    have hne : ((c.combs.length : Int) != (c.parts.length : Int) - 1) = true := bne_iff_ne.2 (by omega)
    have hJE := HJ0.out
    clear hl hd h HD HT HN
    go_enter Tryz.func41, Tryz.ntmps41
    go_wp2
    rw [← HW0.out]
    exact bodyPost_ret (v := .tuple #[]) (by simp [results, Tryz.results41, go_sem]) rfl ⟨rfl, by rw [HL.out, List.append_nil]; exact hJE⟩
end Go.Proofs.YtdiljkmlneeboaaGreat.B
namespace Go.Proofs
open Go.Shelf
shelf_lay_g SlLaysE.n43 Slgn 43 at Tryz 71 as Tryz.laysCompact
end Go.Proofs
namespace Go.Proofs.YtdiljkmlneeboaaGreat.B
open Go.RowKit Go.Lib Go.Sort
set_option maxRecDepth 100000

theorem compact_any (g off cap : Nat) (d : Array Int) (w : World) (hH : Holds (Value.int .u32) w g off d) (hsz : d.size ≤ 9223372036854775807) (hcap : d.size ≤ cap) :
    Calls Tryz.prog 71 #[.slice (some ⟨g, off, none⟩) d.size cap] w fun e w' => e = .returned (.slice (some ⟨g, off, none⟩) (compactUpTo d d.size).length cap) ∧ ∃ q, w' = putRow (Value.int .u32) (Sort.ahead w q) g off (compactUpTo d d.size ++ List.replicate (d.size - (compactUpTo d d.size).length) 0).toArray :=
  AnyE.slices_Compact Tryz.laysCompact (Value.int .u32) (fun _ => rfl) (.intD _ _ _) (.intD _ _ _) 0 (fun _ => by rfl) g off cap d w hH hsz hcap
/-- Of what is sorted it leaves each once. -/
theorem compact_rise (d : Array Int) (hs : ∀ i j, i ≤ j → j < d.size → d[i]! ≤ d[j]!) : ∀ m, m ≤ d.size → (compactUpTo d m).Pairwise (· < ·) ∧ ∀ y, y ∈ compactUpTo d m ↔ ∃ j, j < m ∧ d[j]! = y
  | 0, _ => by
    refine ⟨by simp [compactUpTo], fun y => ⟨fun h => by simp [compactUpTo] at h, fun ⟨j, hj, _⟩ => absurd hj (by omega)⟩⟩
  | m + 1, hm => by
    obtain ⟨h1, h2⟩ := compact_rise d hs m (by omega)
    rw [compactUpTo_succ]
    by_cases hk : keeps d m = true
    · rw [if_pos hk]
      have hlt : ∀ j, j < m → d[j]! < d[m]! := fun j hj => by
        have hk' := of_decide_eq_true hk
        rcases hk' with h0 | h0
        · omega
        · have a1 := hs j (m - 1) (by omega) (by omega)
          have a2 := hs (m - 1) m (by omega) (by omega)
          omega
      refine ⟨?_, fun y => ?_⟩
      · rw [List.pairwise_append]
        refine ⟨h1, by simp, fun a ha b hb => ?_⟩
        rw [List.mem_singleton.1 hb]
        obtain ⟨j, hj, rfl⟩ := (h2 a).1 ha
        exact hlt j hj
      · rw [List.mem_append, h2, List.mem_singleton]
        constructor
        · rintro (⟨j, hj, e⟩ | e)
          · exact ⟨j, by omega, e⟩
          · exact ⟨m, by omega, e.symm⟩
        · rintro ⟨j, hj, e⟩
          rcases Nat.lt_or_ge j m with h | h
          · exact .inl ⟨j, h, e⟩
          · rw [show j = m by omega] at e
            exact .inr e.symm
    · rw [if_neg hk, List.append_nil]
      refine ⟨h1, fun y => ?_⟩
      have hk' : ¬ (m = 0 ∨ d[m]! ≠ d[m - 1]!) := fun h => hk (decide_eq_true h)
      have h0 : m ≠ 0 := fun h => hk' (.inl h)
      have he : d[m]! = d[m - 1]! := Decidable.not_not.1 fun h => hk' (.inr h)
      rw [h2]
      constructor
      · rintro ⟨j, hj, e⟩
        exact ⟨j, by omega, e⟩
      · rintro ⟨j, hj, e⟩
        rcases Nat.lt_or_ge j m with h | h
        · exact ⟨j, h, e⟩
        · rw [show j = m by omega, he] at e
          exact ⟨m - 1, by omega, e⟩
/-- The same as the document's, put in one behind the other. -/
theorem compact_puts (d : Array Int) (hs : ∀ i j, i ≤ j → j < d.size → d[i]! ≤ d[j]!) (l : List Nat) (hm : ∀ y : Int, (∃ j, j < d.size ∧ d[j]! = y) ↔ ∃ k ∈ l, y = (k : Nat)) : compactUpTo d d.size = (putsL l).map fun k : Nat => (k : Int) := by
  obtain ⟨h1, h2⟩ := compact_rise d hs d.size (Nat.le_refl _)
  have hpos : ∀ y ∈ compactUpTo d d.size, 0 ≤ y := fun y hy => by
    obtain ⟨k, _, e⟩ := (hm y).1 ((h2 y).1 hy)
    omega
  have e : (compactUpTo d d.size).map Int.toNat = putsL l := by
    refine rise_ext ?_ (puts_rise l) fun y => ?_
    · rw [List.pairwise_map]
      exact h1.imp_of_mem fun {a b} ha hb hab => by have := hpos a ha; have := hpos b hb; omega
    · rw [puts_mem, List.mem_map]
      constructor
      · rintro ⟨z, hz, rfl⟩
        obtain ⟨k, hk, e⟩ := (hm z).1 ((h2 z).1 hz)
        rw [e]
        exact hk
      · intro hy
        exact ⟨(y : Int), (h2 _).2 ((hm _).2 ⟨y, hy, rfl⟩), by simp⟩
  rw [← e, List.map_map]
  conv => lhs; rw [← List.map_id (compactUpTo d d.size)]
  exact List.map_congr_left fun y hy => by have := hpos y hy; simp; omega
end Go.Proofs.YtdiljkmlneeboaaGreat.B
namespace Go.Proofs.YtdiljkmlneeboaaGreat.B
open Go.RowKit Go.Lib Go.Sort
set_option maxRecDepth 100000

/-- What is asked of slices.Sort of keys. -/
def SortC : Prop := ∀ (g cap : Nat) (zs : List Int) (w : World), Holds (Value.int .u32) w g 0 zs.toArray → g < w.heap.size → zs.length ≤ cap → zs.length ≤ 1000000 →
  Calls Tryz.prog 70 #[.slice (some ⟨g, 0, none⟩) zs.length cap] w fun e w' => e = .returned (.tuple #[]) ∧ ∃ ys : List Int, ys.Perm zs ∧ ys.Pairwise (· ≤ ·) ∧ Holds (Value.int .u32) w' g 0 ys.toArray ∧ KeepX g w w'
def intsL (l : List Nat) : List Int := l.map fun k : Nat => (k : Int)
theorem putRow_keep (enc : Int → Value) (w : World) (q g off : Nat) (d : Array Int) : KeepX g w (putRow enc (Sort.ahead w q) g off d) := by
  refine ⟨rfl, rfl, rfl, by simp, fun k _ hk => ?_⟩
  simp only [putRow, mapBlock, Array.getElem?_modify, heap_ahead]
  rw [if_neg (fun h => hk h.symm)]
theorem OwnK.holds {w : World} {B : Nat} {v : Value} {l : List Nat} (h : OwnK w B v l) (hl : l ≠ []) : ∃ g cap, v = .slice (some ⟨g, 0, none⟩) l.length cap ∧ B ≤ g ∧ g < w.heap.size ∧ l.length ≤ cap ∧ Holds (Value.int .u32) w g 0 (intsL l).toArray := by
  have h0 := h
  rcases h.2 with ⟨_, hn⟩ | ⟨g, cap, cur, rfl, hBg, hg, hnc, hcm, _⟩
  · exact absurd (List.eq_nil_of_length_eq_zero hn) hl
  · refine ⟨g, cap, rfl, hBg, (Array.getElem?_eq_some_iff.1 hg).1, hnc, fun j hj => ⟨?_, by simp [World.frozen?, hg]⟩⟩
    have hjl : j < l.length := by simpa [intsL] using hj
    rw [Nat.zero_add, World.ownsRow.cellAt h0 j (by omega)]
    simp [keysV, intsL, hjl]

set_option maxHeartbeats 1000000 in
theorem insert_nil (w : World) : Calls Tryz.prog 128 #[.slice none 0 0, .int .i64 0, .int .i64 0] w fun e w' => e = .returned (.tuple #[]) ∧ w' = w := by
  go_enter Tryz.func128, Tryz.ntmps128
  go_wp2
  refine wp_loop_rounds 1 ?_
  rw [rounds_succ]
  go_wp2
  exact bodyPost_end (v := .tuple #[]) (by simp [results, Tryz.results128, go_sem]) rfl ⟨rfl, rfl⟩
set_option maxHeartbeats 1000000 in
theorem pdq_nil (l : Int) (w : World) : Calls Tryz.prog 108 #[.slice none 0 0, .int .i64 0, .int .i64 0, .int .i64 l] w fun e w' => e = .returned (.tuple #[]) ∧ w' = w := by
  have h1 := insert_nil w
  go_enter Tryz.func108, Tryz.ntmps108
  go_wp2
  refine wp_loop_rounds 1 ?_
  rw [rounds_succ]
  go_wp2_with (go_at_call 128; fail)
  refine h1.mono ?_
  rintro e w' ⟨rfl, rfl⟩
  go_wp2
  exact bodyPost_ret (v := .tuple #[]) (by simp [results, Tryz.results108, go_sem]) rfl ⟨rfl, rfl⟩
set_option maxHeartbeats 1000000 in
theorem sort_nil (w : World) : Calls Tryz.prog 70 #[.slice none 0 0] w fun e w' => e = .returned (.tuple #[]) ∧ w' = w := by
  have h1 := fun l => pdq_nil l w
  have h2 : Calls Tryz.prog 109 #[.int .u64 0] w _ := Any.bits_Len Tryz.laysLen 0 w (by decide) (by decide)
  go_enter Tryz.func70, Tryz.ntmps70
  go_wp2_with (go_at_call 109; fail)
  refine h2.mono ?_
  rintro e w' ⟨rfl, rfl⟩
  go_wp2_with (go_at_call 108; fail)
  refine (h1 _).mono ?_
  rintro e w' ⟨rfl, rfl⟩
  go_wp2
  exact bodyPost_end (v := .tuple #[]) (by simp [results, Tryz.results70, go_sem]) rfl ⟨rfl, rfl⟩
set_option maxHeartbeats 1000000 in
theorem compact_nil (w : World) : Calls Tryz.prog 71 #[.slice none 0 0] w fun e w' => e = .returned (.slice none 0 0) ∧ w' = w := by
  go_enter Tryz.func71, Tryz.ntmps71
  go_wp2
  go_ret
  exact ⟨rfl, rfl⟩
/-- Sorted and each once, of keys: what the document tells. -/
theorem compact_of {ys : List Int} {l : List Nat} (hp : ys.Perm (intsL l)) (hs : ys.Pairwise (· ≤ ·)) : compactUpTo ys.toArray ys.toArray.size = intsL (putsL l) := by
  refine compact_puts ys.toArray (fun i j hij hj => ?_) l fun y => ?_
  · have hj' : j < ys.length := by simpa using hj
    have hi' : i < ys.length := by omega
    rw [getElem!_pos ys.toArray i (by simpa using hi'), getElem!_pos ys.toArray j (by simpa using hj')]
    rcases Nat.lt_or_ge i j with h | h
    · exact List.pairwise_iff_getElem.1 hs i j hi' hj' h
    · have e : i = j := by omega
      subst e
      exact Int.le_refl _
  · have h1 : (∃ j, j < ys.toArray.size ∧ ys.toArray[j]! = y) ↔ y ∈ ys := by
      constructor
      · rintro ⟨j, hj, rfl⟩
        rw [getElem!_pos ys.toArray j hj]
        simp
      · intro hy
        obtain ⟨j, hj, e⟩ := List.getElem_of_mem hy
        refine ⟨j, by simpa using hj, ?_⟩
        rw [getElem!_pos ys.toArray j (by simpa using hj)]
        simpa using e
    rw [h1, hp.mem_iff]
    unfold intsL
    rw [List.mem_map]
    constructor
    · rintro ⟨k, hk, e⟩
      exact ⟨k, hk, e.symm⟩
    · rintro ⟨k, hk, e⟩
      exact ⟨k, hk, e.symm⟩
/-- What a call keeps that tells the keys one by one to a variable's slice. -/
def GJ (w0 : World) (b B : Nat) (l : List Nat) (W : World) : Prop := ∃ v, W.heap[b]? = some (.cells #[v] 30 (0, 0)) ∧ OwnK W B v l ∧ KeepB b B w0 W
theorem KeepB.then {b B : Nat} {w w1 w2 : World} (h : KeepB b B w w1) (k : Below w1.heap.size w1 w2) (hB : B ≤ w.heap.size) : KeepB b B w w2 :=
  ⟨k.os.trans h.os, k.tape.trans h.tape, k.output.trans h.output, Nat.le_trans h.size k.size, fun j hj hn => (k.block j (by have := h.size; omega)).trans (h.block j hj hn)⟩
theorem KeepB.trans {b B : Nat} {w w1 w2 : World} (h : KeepB b B w w1) (k : KeepB b B w1 w2) : KeepB b B w w2 :=
  ⟨k.os.trans h.os, k.tape.trans h.tape, k.output.trans h.output, Nat.le_trans h.size k.size, fun j hj hn => (k.block j hj hn).trans (h.block j hj hn)⟩

set_option maxHeartbeats 1000000 in
theorem need23_any {wB w : World} {pv cv : Value} {c : Cx} {bc oc bp op : Nat} {qv : Nat → Value} {bq oq : Nat → Nat} {lv : Nat → Nat → Value} {b bx : Nat}
    (hc : CxAt (ClAt wB) wB pv cv c bc oc bp op qv bq oq lv) (hn : ∀ p ∈ c.parts, ∀ x ∈ p, x.1.nm.size ≤ 5000) (hlc : c.parts.length ≤ 1000000) (hal : (asksL c).length ≤ 1000000)
    (hB : Below wB.heap.size wB w) (hb : wB.heap.size ≤ b) (hx : w.heap[bx]? = some (.cells #[pv, cv] 45 (0, 0))) (hk : w.heap[b]? = some (.cells #[.slice none 0 0] 30 (0, 0))) :
    Calls Tryz.prog 46 #[.func (.func 69) #[] #[.pointer (some ⟨b, 0, none⟩)], .pointer (some ⟨bx, 0, none⟩)] w fun e w' => e = .returned (.tuple #[]) ∧ (∃ v, w'.heap[b]? = some (.cells #[v] 30 (0, 0)) ∧ OwnK w' w.heap.size v (asksL c)) ∧ KeepX b w w' := by
  have hbl : b < w.heap.size := (Array.getElem?_eq_some_iff.1 hk).1
  have hw0 : Below w.heap.size w (w.alloc (.cells #[pv, cv] 45)) := (Below.refl _ _).alloc (Nat.le_refl _) _
  have hask := asksH_27 (J := GJ (w.alloc (.cells #[pv, cv] 45)) b (w.heap.size + 1)) (pv := pv) (cv := cv) (c := c) (bc := bc) (oc := oc) (bp := bp) (op := op) (qv := qv) (bq := bq) (oq := oq) (lv := lv) (b := b) (N := 1000000)
    (fun l W W' ⟨v, h1, h2, h3⟩ hb' => ⟨v, (hb'.block _ (Array.getElem?_eq_some_iff.1 h1).1).trans h1, h2.keep hb', h3.then hb' (by simp)⟩)
    (fun l W ⟨v, h1, h2, h3⟩ => hc.keep ⟨h3.os.trans (hw0.os.trans hB.os), h3.tape.trans (hw0.tape.trans hB.tape), h3.output.trans (hw0.output.trans hB.output), Nat.le_trans hB.size (Nat.le_trans hw0.size h3.size), fun j hj => (h3.block j (by have := hB.size; omega) (by omega)).trans ((hw0.block j (by have := hB.size; omega)).trans (hB.block j hj))⟩)
    (fun p hp x hx => Nat.le_trans (hn p hp x hx) (by decide)) (by omega)
    (fun l W k _ hl ⟨v, h1, h2, h3⟩ => (tellK h1 h2 (by omega) (by have := h3.size; simp at this; omega) hl k).mono fun e W' q => ⟨q.1, by
      obtain ⟨_, ⟨v', a1, a2⟩, a3⟩ := q
      exact ⟨v', a1, a2, h3.trans a3⟩⟩)
    (w := w) (l := []) (by simpa using hal) ⟨.slice none 0 0, (hw0.block _ hbl).trans hk, OwnK.nil _ _, ⟨rfl, rfl, rfl, Nat.le_refl _, fun _ _ _ => rfl⟩⟩
    (fun l W ⟨v, h1, h2, h3⟩ => (h3.block _ (by omega) (by omega)).trans (heap_alloc_last w _))
  rw [List.nil_append] at hask
  have HR : Hid (∀ W, GJ (w.alloc (.cells #[pv, cv] 45)) b (w.heap.size + 1) (asksL c) W → (∃ v, W.heap[b]? = some (.cells #[v] 30 (0, 0)) ∧ OwnK W w.heap.size v (asksL c)) ∧ KeepX b w W) := fun W ⟨v, h1, h2, h3⟩ =>
    ⟨⟨v, h1, h2.low (by omega)⟩, ⟨h3.os.trans hw0.os, h3.tape.trans hw0.tape, h3.output.trans hw0.output, Nat.le_trans hw0.size h3.size, fun j hj hn => (h3.block j (by omega) hn).trans (hw0.block j hj)⟩⟩
  have c0 : w.cell? ⟨bx, 0, none⟩ = some pv := cellAt hx 0
  have c1 : w.cell? ⟨bx, 1, none⟩ = some cv := cellAt hx 1
  obtain ⟨pa, pc, epv, _⟩ := hc.ps
  obtain ⟨ca, cc, ecv, _⟩ := hc.cs
  subst epv ecv
  generalize GJ _ b (w.heap.size + 1) (asksL c) = G at *
  clear hc hn hB hx hk hw0 hal
  go_enter Tryz.func46, Tryz.ntmps46
  go_wp2_with (go_at_call 41; fail)
  refine hask.mono ?_
  rintro e w2 ⟨rfl, hq⟩
  have HQ := hid_mk (HR.out _ hq)
  clear hask hq c0 c1 HR
  go_wp2
  exact bodyPost_end (v := .tuple #[]) (by simp [results, Tryz.results46, go_sem]) rfl ⟨rfl, HQ.out.1, HQ.out.2⟩
end Go.Proofs.YtdiljkmlneeboaaGreat.B
namespace Go.Proofs.YtdiljkmlneeboaaGreat.B
open Go.RowKit Go.Lib Go.Sort
set_option maxRecDepth 100000

theorem OwnK.holds2 {w : World} {B : Nat} {v : Value} {l : List Nat} (h : OwnK w B v l) : (v = .slice none 0 0 ∧ l = []) ∨ ∃ g cap, v = .slice (some ⟨g, 0, none⟩) l.length cap ∧ B ≤ g ∧ g < w.heap.size ∧ l.length ≤ cap ∧ cap ≤ 9223372036854775807 ∧ Holds (Value.int .u32) w g 0 (intsL l).toArray := by
  have h0 := h
  rcases h.2 with ⟨e, hn⟩ | ⟨g, cap, cur, rfl, hBg, hg, hnc, hcm, _⟩
  · exact .inl ⟨e, List.eq_nil_of_length_eq_zero hn⟩
  · refine .inr ⟨g, cap, rfl, hBg, (Array.getElem?_eq_some_iff.1 hg).1, hnc, hcm, fun j hj => ⟨?_, by simp [World.frozen?, hg]⟩⟩
    have hjl : j < l.length := by simpa [intsL] using hj
    rw [Nat.zero_add, World.ownsRow.cellAt h0 j (by omega)]
    simp [keysV, intsL, hjl]
/-- Sorted and made each once: what is told. -/
theorem holds_rd {w : World} {g cap : Nat} {ys : List Int} {l : List Nat} (q : Nat) (hH : Holds (Value.int .u32) w g 0 ys.toArray) (hg : g < w.heap.size) (hc : compactUpTo ys.toArray ys.toArray.size = intsL (putsL l)) (hle : (intsL (putsL l)).length ≤ ys.length) (hcap : ys.length ≤ cap) (hcm : cap ≤ 9223372036854775807) :
    RdK (putRow (Value.int .u32) (Sort.ahead w q) g 0 (compactUpTo ys.toArray ys.toArray.size ++ List.replicate (ys.toArray.size - (compactUpTo ys.toArray ys.toArray.size).length) 0).toArray) (.slice (some ⟨g, 0, none⟩) (compactUpTo ys.toArray ys.toArray.size).length cap) (putsL l) := by
  rw [hc]
  have hln : (intsL (putsL l)).length = (putsL l).length := by simp [intsL]
  refine ⟨_, cap, by rw [hln], by omega, hcm, fun t ht => ⟨g, 0, rfl, by simpa using hg, ?_⟩⟩
  have hsz : (intsL (putsL l) ++ List.replicate (ys.toArray.size - (intsL (putsL l)).length) 0).toArray.size = ys.toArray.size := by simp; omega
  rw [cell?_putRow (Value.int .u32) (Sort.ahead w q) g 0 ys.toArray _ (holds_ahead _ _ _ _ _ _ hH) hsz t (by rw [hsz]; simp; omega)]
  congr 1
  rw [getElem!_pos _ t (by rw [hsz]; simp; omega)]
  simp [intsL, ht]

set_option maxHeartbeats 1000000 in
theorem gathered_any (HS : SortC) {wB w : World} {pv cv : Value} {c : Cx} {bc oc bp op : Nat} {qv : Nat → Value} {bq oq : Nat → Nat} {lv : Nat → Nat → Value} {bx : Nat}
    (hc : CxAt (ClAt wB) wB pv cv c bc oc bp op qv bq oq lv) (hn : ∀ p ∈ c.parts, ∀ x ∈ p, x.1.nm.size ≤ 5000) (hlc : c.parts.length ≤ 1000000) (hal : (asksL c).length ≤ 1000000)
    (hB : Below wB.heap.size wB w) (hx : w.heap[bx]? = some (.cells #[pv, cv] 45 (0, 0))) :
    Calls Tryz.prog 30 #[.func (.func 46) #[] #[.pointer (some ⟨bx, 0, none⟩)]] w fun e w' => ∃ v, e = .returned v ∧ RdK w' v (putsL (asksL c)) ∧ Below w.heap.size w w' := by
  obtain ⟨w2, hw2⟩ : ∃ w2, w2 = w.alloc (.cells #[.slice none 0 0] 30) := ⟨_, rfl⟩
  have hB2 : Below w.heap.size w w2 := by rw [hw2]; exact (Below.refl _ _).alloc (Nat.le_refl _) _
  have hs2 : w2.heap.size = w.heap.size + 1 := by rw [hw2]; simp
  have hk2 : w2.heap[w.heap.size]? = some (.cells #[.slice none 0 0] 30 (0, 0)) := by rw [hw2]; exact heap_alloc_last w _
  have hn23 := need23_any (b := w.heap.size) hc hn hlc hal (hB.trans (hB2.mono hB.size)) hB.size ((hB2.block _ (Array.getElem?_eq_some_iff.1 hx).1).trans hx) hk2
  have HW2 := hid_mk hw2
  have HB2 := hid_mk hB2
  have HS2 := hid_mk hs2
  clear hw2 hB2 hs2 hk2 hc hn hB hx
  generalize asksL c = L at *
  go_enter Tryz.func30, Tryz.ntmps30
  go_wp2_with (go_at_call 46; fail)
  rw [← HW2.out]
  refine hn23.mono ?_
  rintro e w3 ⟨rfl, ⟨v, hv, ho⟩, hX⟩
  have HB3 : Hid (Below w.heap.size w w3) := HB2.out.trans (hX.below (B := w.heap.size) (Nat.le_refl _) (by rw [HS2.out]; omega))
  have k0 : w3.cell? ⟨w.heap.size, 0, none⟩ = some v := cellAt hv 0
  have HV := hid_mk hv
  clear hn23 hX hv
  rcases ho.holds2 with ⟨rfl, rfl⟩ | ⟨g, cap, rfl, hBg, hgl, hlc2, hcm, hH⟩
  · have HRD : Hid (RdK w3 (.slice none 0 0) (putsL [])) := ⟨none, 0, rfl, Nat.le_refl _, Nat.zero_le _, fun t ht => absurd ht (by simp [putsL])⟩
    have hso := sort_nil w3
    have hco := compact_nil w3
    clear ho HS HV HW2 HS2 HB2
    go_wp2_with (go_at_call 70; fail)
    refine hso.mono ?_
    rintro e w4 ⟨rfl, rfl⟩
    clear hso
    go_wp2_with (go_at_call 71; fail)
    refine hco.mono ?_
    rintro e w5 ⟨rfl, rfl⟩
    clear hco
    go_wp2
    go_ret
    exact ⟨_, rfl, HRD.out, HB3.out⟩
  · have hil : (intsL L).length = L.length := by simp [intsL]
    have hso := HS g cap (intsL L) w3 hH hgl (by omega) (by omega)
    rw [hil] at hso
    clear ho HS hH
    go_wp2_with (go_at_call 70; fail)
    refine hso.mono ?_
    rintro e w4 ⟨rfl, ys, hp, hsd, hH4, hX4⟩
    have hyl : ys.toArray.size = L.length := by rw [List.size_toArray, hp.length_eq, hil]
    have hco := compact_any g 0 cap ys.toArray w4 hH4 (by omega) (by omega)
    have k1 : w4.cell? ⟨w.heap.size, 0, none⟩ = some (.slice (some ⟨g, 0, none⟩) L.length cap) := by
      rw [World.cell?_of_block (hX4.block w.heap.size (Array.getElem?_eq_some_iff.1 HV.out).1 (by rw [HS2.out] at hBg; omega))]
      exact k0
    have HB4 : Hid (Below w.heap.size w w4) := HB3.out.trans (hX4.below (B := w.heap.size) (by rw [HS2.out] at hBg; omega) HB3.out.size)
    have hcp := compact_of hp hsd
    have hle : (intsL (putsL L)).length ≤ ys.length := by
      have := puts_len L
      rw [List.size_toArray] at hyl
      simp [intsL]
      omega
    have HRD : Hid (∀ q, RdK (putRow (Value.int .u32) (Sort.ahead w4 q) g 0 (compactUpTo ys.toArray ys.toArray.size ++ List.replicate (ys.toArray.size - (compactUpTo ys.toArray ys.toArray.size).length) 0).toArray) (.slice (some ⟨g, 0, none⟩) (compactUpTo ys.toArray ys.toArray.size).length cap) (putsL L)) := fun q => holds_rd q hH4 (Nat.lt_of_lt_of_le hgl hX4.size) hcp hle (by rw [List.size_toArray] at hyl; omega) hcm
    have HKP : Hid (∀ q d, Below w.heap.size w (putRow (Value.int .u32) (Sort.ahead w4 q) g 0 d)) := fun q d => HB4.out.trans ((putRow_keep (Value.int .u32) w4 q g 0 d).below (B := w.heap.size) (by rw [HS2.out] at hBg; omega) HB4.out.size)
    rw [hyl] at hco HRD
    generalize compactUpTo ys.toArray L.length = Z at *
    clear hso hp hsd hH4 hX4 k0 hcp hle HV HW2
    go_wp2_with (go_at_call 71; fail)
    refine hco.mono ?_
    rintro e w5 ⟨rfl, q, rfl⟩
    clear hco k1
    go_wp2
    go_ret
    exact ⟨_, rfl, HRD.out q, HKP.out q _⟩

set_option maxHeartbeats 1000000 in
theorem needs_any (HS : SortC) {w : World} {pv cv : Value} {c : Cx} {bc oc bp op : Nat} {qv : Nat → Value} {bq oq : Nat → Nat} {lv : Nat → Nat → Value}
    (hc : CxAt (ClAt w) w pv cv c bc oc bp op qv bq oq lv) (hn : ∀ p ∈ c.parts, ∀ x ∈ p, x.1.nm.size ≤ 5000) (hlc : c.parts.length ≤ 1000000) (hal : (asksL c).length ≤ 1000000) :
    Calls Tryz.prog 20 #[.agg #[pv, cv]] w fun e w' => ∃ v, e = .returned v ∧ RdK w' v (putsL (asksL c)) ∧ Below w.heap.size w w' := by
  obtain ⟨w1, hw1⟩ : ∃ w1, w1 = w.alloc (.cells #[pv, cv] 45) := ⟨_, rfl⟩
  have hB1 : Below w.heap.size w w1 := by rw [hw1]; exact (Below.refl _ _).alloc (Nat.le_refl _) _
  have hx1 : w1.heap[w.heap.size]? = some (.cells #[pv, cv] 45 (0, 0)) := by rw [hw1]; exact heap_alloc_last w _
  have hg := gathered_any HS hc hn hlc hal hB1 hx1
  obtain ⟨pa, pc, epv, _⟩ := hc.ps
  obtain ⟨ca, cc, ecv, _⟩ := hc.cs
  subst epv ecv
  have HW1 := hid_mk hw1
  have HB1 := hid_mk hB1
  clear hw1 hB1 hx1 hc hn hal HS
  generalize putsL (asksL c) = L at *
  go_enter Tryz.func20, Tryz.ntmps20
  go_wp2_with (go_at_call 30; fail)
  rw [← HW1.out]
  refine hg.mono ?_
  rintro e w2 ⟨v, rfl, hr, hB2⟩
  have HH := hid_mk (And.intro hr (HB1.out.trans (hB2.mono HB1.out.size)))
  clear hg hr hB2
  go_wp2
  go_ret
  exact ⟨_, rfl, HH.out⟩
end Go.Proofs.YtdiljkmlneeboaaGreat.B
