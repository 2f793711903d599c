/- Filters: one bit more, a key more; in plain numbers. Selectors as trees, and the slices that hold them. Filters: Add and Has of the program and of the document. Filters: Has of the program and of the document. The key of a name: the program's and the document's. The document's key of a name. slices.Sort and slices.Compact of one key. What a selector asks of those above: the example's. What the closures do that are told keys; Skip and Needs of the example's selectors. Whether a simple selector is a name that an element's keys have; what a selector asks of those above. The chapter's example. -/
import Derived.Test.YtdiljkmlneeboaaGreatRows
import Derived.WalkKit
import Derived.WalkLawsBesides
import Derived.IntWalk
import Derived.Deep.MidRow
import Derived.BigQuiet
import Derived.Deep.QuietTactic
import Derived.Below
import Derived.Deep.WholeRow
import Derived.Deep.DeepCutAuto
import Derived.Laws.Bits64b
import Derived.Deep.RegionHeld3
import Derived.ChangeKeysEq
import Derived.Lib.Bytealg
import Derived.WalkMore
import Derived.Laws.Tables
import Derived.Shelf.Small.Bits
import Derived.Ground.NamesProg
import Derived.Shelf.Lay
import Derived.Handy
namespace Go.Proofs.YtdiljkmlneeboaaGreat.B
open Go.RowKit
set_option maxRecDepth 100000

/-- A fact that the walk does not look into. -/
def Hid (p : Prop) : Prop := p
theorem hid_mk {p : Prop} (h : p) : Hid p := h
theorem Hid.out {p : Prop} (h : Hid p) : p := h

/-- A filter: its four items. -/
structure Flt where
  a : Nat
  b : Nat
  c : Nat
  d : Nat
def Flt.ok (f : Flt) : Prop := f.a < 18446744073709551616 ∧ f.b < 18446744073709551616 ∧ f.c < 18446744073709551616 ∧ f.d < 18446744073709551616
/-- As a value. -/
def Flt.v (f : Flt) : Value := .agg #[.int .u64 (f.a : Int), .int .u64 (f.b : Int), .int .u64 (f.c : Int), .int .u64 (f.d : Int)]
/-- With a bit more. -/
def Flt.bit (f : Flt) (n : Nat) : Flt :=
  if n / 64 = 0 then ⟨f.a ||| 2 ^ (n % 64), f.b, f.c, f.d⟩ else if n / 64 = 1 then ⟨f.a, f.b ||| 2 ^ (n % 64), f.c, f.d⟩
  else if n / 64 = 2 then ⟨f.a, f.b, f.c ||| 2 ^ (n % 64), f.d⟩ else ⟨f.a, f.b, f.c, f.d ||| 2 ^ (n % 64)⟩
/-- With a key more. -/
def Flt.add (f : Flt) (k : Nat) : Flt := (f.bit (k % 256)).bit (k / 256 % 256)
theorem pow_lt (j : Nat) (hj : j < 64) : 2 ^ j < 18446744073709551616 := by
  have : 2 ^ j < 2 ^ 64 := Nat.pow_lt_pow_right (by decide) hj
  simpa using this
theorem or_lt {x j : Nat} (hx : x < 18446744073709551616) (hj : j < 64) : x ||| 2 ^ j < 18446744073709551616 := by
  have h : x ||| 2 ^ j < 2 ^ 64 := Nat.or_lt_two_pow (by simpa using hx) (by simpa using pow_lt j hj)
  simpa using h
theorem ok_bit {f : Flt} (h : f.ok) (n : Nat) : (f.bit n).ok := by
  obtain ⟨h1, h2, h3, h4⟩ := h
  have hj : n % 64 < 64 := Nat.mod_lt _ (by decide)
  unfold Flt.bit
  split
  · exact ⟨or_lt h1 hj, h2, h3, h4⟩
  · split
    · exact ⟨h1, or_lt h2 hj, h3, h4⟩
    · split
      · exact ⟨h1, h2, or_lt h3 hj, h4⟩
      · exact ⟨h1, h2, h3, or_lt h4 hj⟩
theorem ok_add {f : Flt} (h : f.ok) (k : Nat) : (f.add k).ok := ok_bit (ok_bit h _) _
theorem orB {x j : Nat} (hx : x < 18446744073709551616) (hj : j < 64) : bits .or .u64 (x : Int) (IntKind.u64.wrap (2 ^ j)) = ((x ||| 2 ^ j : Nat) : Int) := by
  have h := pow_lt j hj
  have e : IntKind.u64.wrap (2 ^ j) = ((2 ^ j : Nat) : Int) := by
    rw [IntKind.wrap_u64]
    have e2 : ((2 ^ j : Nat) : Int) = 2 ^ j := by simp
    rw [← e2]
    exact Int.emod_eq_of_lt (Int.natCast_nonneg _) (by omega)
  rw [e, bits_or_u64_nat _ _ hx h]

theorem four (n : Nat) (h : n < 256) : n / 64 = 0 ∨ n / 64 = 1 ∨ n / 64 = 2 ∨ n / 64 = 3 := by omega

set_option maxHeartbeats 400000 in
theorem lit_0 (f : Flt) (hf : f.ok) (k : Nat) (hk : k < 4294967296) (hn : k % 256 / 64 = 0) (w : World) :
    Calls Tryz.prog 43 #[f.v, .int .u32 (k : Int)] w fun e w' => e = .returned (f.bit (k % 256)).v ∧ Below w.heap.size w w' := by
  have hj : k % 64 < 64 := Nat.mod_lt _ (by decide)
  have e0 : (k % 256) % 64 = k % 64 := by omega
  have e1 : f.bit (k % 256) = ⟨f.a ||| 2 ^ (k % 64), f.b, f.c, f.d⟩ := by simp [Flt.bit, hn, e0]
  rw [e1]
  have hq : (k : Int) % 256 / 64 = (0 : Int) := by omega
  have HO : Hid (bits .or .u64 (f.a : Int) (IntKind.u64.wrap (2 ^ (k % 64))) = ((f.a ||| 2 ^ (k % 64) : Nat) : Int)) := orB hf.1 hj
  have hB : ∀ o1 o2, Below w.heap.size w ((w.alloc o1).alloc o2) := fun o1 o2 => ((Below.refl _ _).alloc (Nat.le_refl _) _).alloc (by simp) _
  unfold Flt.v
  clear e1 hn hf hj
  go_enter Tryz.func43, Tryz.ntmps43
  go_wp2
  rw [HO.out]
  refine bodyPost_ret (v := Flt.v ⟨f.a ||| 2 ^ (k % 64), f.b, f.c, f.d⟩) (by simp [results, Tryz.results43, go_sem, Flt.v]) rfl ⟨rfl, hB _ _⟩
set_option maxHeartbeats 400000 in
theorem lit_1 (f : Flt) (hf : f.ok) (k : Nat) (hk : k < 4294967296) (hn : k % 256 / 64 = 1) (w : World) :
    Calls Tryz.prog 43 #[f.v, .int .u32 (k : Int)] w fun e w' => e = .returned (f.bit (k % 256)).v ∧ Below w.heap.size w w' := by
  have hj : k % 64 < 64 := Nat.mod_lt _ (by decide)
  have e0 : (k % 256) % 64 = k % 64 := by omega
  have e1 : f.bit (k % 256) = ⟨f.a, f.b ||| 2 ^ (k % 64), f.c, f.d⟩ := by simp [Flt.bit, hn, e0]
  rw [e1]
  have hq : (k : Int) % 256 / 64 = (1 : Int) := by omega
  have HO : Hid (bits .or .u64 (f.b : Int) (IntKind.u64.wrap (2 ^ (k % 64))) = ((f.b ||| 2 ^ (k % 64) : Nat) : Int)) := orB hf.2.1 hj
  have hB : ∀ o1 o2, Below w.heap.size w ((w.alloc o1).alloc o2) := fun o1 o2 => ((Below.refl _ _).alloc (Nat.le_refl _) _).alloc (by simp) _
  unfold Flt.v
  clear e1 hn hf hj
  go_enter Tryz.func43, Tryz.ntmps43
  go_wp2
  rw [HO.out]
  refine bodyPost_ret (v := Flt.v ⟨f.a, f.b ||| 2 ^ (k % 64), f.c, f.d⟩) (by simp [results, Tryz.results43, go_sem, Flt.v]) rfl ⟨rfl, hB _ _⟩
set_option maxHeartbeats 400000 in
theorem lit_2 (f : Flt) (hf : f.ok) (k : Nat) (hk : k < 4294967296) (hn : k % 256 / 64 = 2) (w : World) :
    Calls Tryz.prog 43 #[f.v, .int .u32 (k : Int)] w fun e w' => e = .returned (f.bit (k % 256)).v ∧ Below w.heap.size w w' := by
  have hj : k % 64 < 64 := Nat.mod_lt _ (by decide)
  have e0 : (k % 256) % 64 = k % 64 := by omega
  have e1 : f.bit (k % 256) = ⟨f.a, f.b, f.c ||| 2 ^ (k % 64), f.d⟩ := by simp [Flt.bit, hn, e0]
  rw [e1]
  have hq : (k : Int) % 256 / 64 = (2 : Int) := by omega
  have HO : Hid (bits .or .u64 (f.c : Int) (IntKind.u64.wrap (2 ^ (k % 64))) = ((f.c ||| 2 ^ (k % 64) : Nat) : Int)) := orB hf.2.2.1 hj
  have hB : ∀ o1 o2, Below w.heap.size w ((w.alloc o1).alloc o2) := fun o1 o2 => ((Below.refl _ _).alloc (Nat.le_refl _) _).alloc (by simp) _
  unfold Flt.v
  clear e1 hn hf hj
  go_enter Tryz.func43, Tryz.ntmps43
  go_wp2
  rw [HO.out]
  refine bodyPost_ret (v := Flt.v ⟨f.a, f.b, f.c ||| 2 ^ (k % 64), f.d⟩) (by simp [results, Tryz.results43, go_sem, Flt.v]) rfl ⟨rfl, hB _ _⟩
set_option maxHeartbeats 400000 in
theorem lit_3 (f : Flt) (hf : f.ok) (k : Nat) (hk : k < 4294967296) (hn : k % 256 / 64 = 3) (w : World) :
    Calls Tryz.prog 43 #[f.v, .int .u32 (k : Int)] w fun e w' => e = .returned (f.bit (k % 256)).v ∧ Below w.heap.size w w' := by
  have hj : k % 64 < 64 := Nat.mod_lt _ (by decide)
  have e0 : (k % 256) % 64 = k % 64 := by omega
  have e1 : f.bit (k % 256) = ⟨f.a, f.b, f.c, f.d ||| 2 ^ (k % 64)⟩ := by simp [Flt.bit, hn, e0]
  rw [e1]
  have hq : (k : Int) % 256 / 64 = (3 : Int) := by omega
  have HO : Hid (bits .or .u64 (f.d : Int) (IntKind.u64.wrap (2 ^ (k % 64))) = ((f.d ||| 2 ^ (k % 64) : Nat) : Int)) := orB hf.2.2.2 hj
  have hB : ∀ o1 o2, Below w.heap.size w ((w.alloc o1).alloc o2) := fun o1 o2 => ((Below.refl _ _).alloc (Nat.le_refl _) _).alloc (by simp) _
  unfold Flt.v
  clear e1 hn hf hj
  go_enter Tryz.func43, Tryz.ntmps43
  go_wp2
  rw [HO.out]
  refine bodyPost_ret (v := Flt.v ⟨f.a, f.b, f.c, f.d ||| 2 ^ (k % 64)⟩) (by simp [results, Tryz.results43, go_sem, Flt.v]) rfl ⟨rfl, hB _ _⟩
set_option maxHeartbeats 400000 in
theorem rbit_0 (f : Flt) (hf : f.ok) (k : Nat) (hk : k < 256) (hn : k / 64 = 0) (w : World) :
    Calls Tryz.prog 76 #[f.v, .int .u32 (k : Int)] w fun e w' => e = .returned (f.bit (k)).v ∧ Below w.heap.size w w' := by
  have hj : k % 64 < 64 := Nat.mod_lt _ (by decide)
  have e1 : f.bit (k) = ⟨f.a ||| 2 ^ (k % 64), f.b, f.c, f.d⟩ := by simp [Flt.bit, hn]
  rw [e1]
  have hq : (k : Int) / 64 = (0 : Int) := by omega
  have HO : Hid (bits .or .u64 (f.a : Int) (IntKind.u64.wrap (2 ^ (k % 64))) = ((f.a ||| 2 ^ (k % 64) : Nat) : Int)) := orB hf.1 hj
  have hB : ∀ o1 o2, Below w.heap.size w ((w.alloc o1).alloc o2) := fun o1 o2 => ((Below.refl _ _).alloc (Nat.le_refl _) _).alloc (by simp) _
  unfold Flt.v
  clear e1 hn hf hj
  go_enter Tryz.func76, Tryz.ntmps76
  go_wp2
  rw [HO.out]
  refine bodyPost_ret (v := Flt.v ⟨f.a ||| 2 ^ (k % 64), f.b, f.c, f.d⟩) (by simp [results, Tryz.results76, go_sem, Flt.v]) rfl ⟨rfl, hB _ _⟩
set_option maxHeartbeats 400000 in
theorem rbit_1 (f : Flt) (hf : f.ok) (k : Nat) (hk : k < 256) (hn : k / 64 = 1) (w : World) :
    Calls Tryz.prog 76 #[f.v, .int .u32 (k : Int)] w fun e w' => e = .returned (f.bit (k)).v ∧ Below w.heap.size w w' := by
  have hj : k % 64 < 64 := Nat.mod_lt _ (by decide)
  have e1 : f.bit (k) = ⟨f.a, f.b ||| 2 ^ (k % 64), f.c, f.d⟩ := by simp [Flt.bit, hn]
  rw [e1]
  have hq : (k : Int) / 64 = (1 : Int) := by omega
  have HO : Hid (bits .or .u64 (f.b : Int) (IntKind.u64.wrap (2 ^ (k % 64))) = ((f.b ||| 2 ^ (k % 64) : Nat) : Int)) := orB hf.2.1 hj
  have hB : ∀ o1 o2, Below w.heap.size w ((w.alloc o1).alloc o2) := fun o1 o2 => ((Below.refl _ _).alloc (Nat.le_refl _) _).alloc (by simp) _
  unfold Flt.v
  clear e1 hn hf hj
  go_enter Tryz.func76, Tryz.ntmps76
  go_wp2
  rw [HO.out]
  refine bodyPost_ret (v := Flt.v ⟨f.a, f.b ||| 2 ^ (k % 64), f.c, f.d⟩) (by simp [results, Tryz.results76, go_sem, Flt.v]) rfl ⟨rfl, hB _ _⟩
set_option maxHeartbeats 400000 in
theorem rbit_2 (f : Flt) (hf : f.ok) (k : Nat) (hk : k < 256) (hn : k / 64 = 2) (w : World) :
    Calls Tryz.prog 76 #[f.v, .int .u32 (k : Int)] w fun e w' => e = .returned (f.bit (k)).v ∧ Below w.heap.size w w' := by
  have hj : k % 64 < 64 := Nat.mod_lt _ (by decide)
  have e1 : f.bit (k) = ⟨f.a, f.b, f.c ||| 2 ^ (k % 64), f.d⟩ := by simp [Flt.bit, hn]
  rw [e1]
  have hq : (k : Int) / 64 = (2 : Int) := by omega
  have HO : Hid (bits .or .u64 (f.c : Int) (IntKind.u64.wrap (2 ^ (k % 64))) = ((f.c ||| 2 ^ (k % 64) : Nat) : Int)) := orB hf.2.2.1 hj
  have hB : ∀ o1 o2, Below w.heap.size w ((w.alloc o1).alloc o2) := fun o1 o2 => ((Below.refl _ _).alloc (Nat.le_refl _) _).alloc (by simp) _
  unfold Flt.v
  clear e1 hn hf hj
  go_enter Tryz.func76, Tryz.ntmps76
  go_wp2
  rw [HO.out]
  refine bodyPost_ret (v := Flt.v ⟨f.a, f.b, f.c ||| 2 ^ (k % 64), f.d⟩) (by simp [results, Tryz.results76, go_sem, Flt.v]) rfl ⟨rfl, hB _ _⟩
set_option maxHeartbeats 400000 in
theorem rbit_3 (f : Flt) (hf : f.ok) (k : Nat) (hk : k < 256) (hn : k / 64 = 3) (w : World) :
    Calls Tryz.prog 76 #[f.v, .int .u32 (k : Int)] w fun e w' => e = .returned (f.bit (k)).v ∧ Below w.heap.size w w' := by
  have hj : k % 64 < 64 := Nat.mod_lt _ (by decide)
  have e1 : f.bit (k) = ⟨f.a, f.b, f.c, f.d ||| 2 ^ (k % 64)⟩ := by simp [Flt.bit, hn]
  rw [e1]
  have hq : (k : Int) / 64 = (3 : Int) := by omega
  have HO : Hid (bits .or .u64 (f.d : Int) (IntKind.u64.wrap (2 ^ (k % 64))) = ((f.d ||| 2 ^ (k % 64) : Nat) : Int)) := orB hf.2.2.2 hj
  have hB : ∀ o1 o2, Below w.heap.size w ((w.alloc o1).alloc o2) := fun o1 o2 => ((Below.refl _ _).alloc (Nat.le_refl _) _).alloc (by simp) _
  unfold Flt.v
  clear e1 hn hf hj
  go_enter Tryz.func76, Tryz.ntmps76
  go_wp2
  rw [HO.out]
  refine bodyPost_ret (v := Flt.v ⟨f.a, f.b, f.c, f.d ||| 2 ^ (k % 64)⟩) (by simp [results, Tryz.results76, go_sem, Flt.v]) rfl ⟨rfl, hB _ _⟩
theorem lit_any (f : Flt) (hf : f.ok) (k : Nat) (hk : k < 4294967296) (w : World) :
    Calls Tryz.prog 43 #[f.v, .int .u32 (k : Int)] w fun e w' => e = .returned (f.bit (k % 256)).v ∧ Below w.heap.size w w' := by
  rcases four (k % 256) (Nat.mod_lt _ (by decide)) with h | h | h | h
  · exact lit_0 f hf k hk h w
  · exact lit_1 f hf k hk h w
  · exact lit_2 f hf k hk h w
  · exact lit_3 f hf k hk h w
theorem rbit_any (f : Flt) (hf : f.ok) (k : Nat) (hk : k < 256) (w : World) :
    Calls Tryz.prog 76 #[f.v, .int .u32 (k : Int)] w fun e w' => e = .returned (f.bit k).v ∧ Below w.heap.size w w' := by
  rcases four k hk with h | h | h | h
  · exact rbit_0 f hf k hk h w
  · exact rbit_1 f hf k hk h w
  · exact rbit_2 f hf k hk h w
  · exact rbit_3 f hf k hk h w

end Go.Proofs.YtdiljkmlneeboaaGreat.B
namespace Go.Proofs.YtdiljkmlneeboaaGreat.B
open Go.RowKit
set_option maxRecDepth 100000

/-- A simple selector's plain fields. -/
structure S6 where
  k : Int
  nm : ByteArray
  op : Int
  v : ByteArray
  a : Int
  b : Int
/-- A complex selector: its Parts, each simple one with its List, and its Combs. -/
inductive Cx where
  | mk (parts : List (List (S6 × List Cx))) (combs : List Int)
def Cx.parts : Cx → List (List (S6 × List Cx)) | .mk p _ => p
def Cx.combs : Cx → List Int | .mk _ c => c
def s7 (s : S6) (l : Value) : List Value := [.int .i64 s.k, .string s.nm, .int .i64 s.op, .string s.v, .int .i64 s.a, .int .i64 s.b, l]
/-- A slice of n items that begins there. -/
def Sl (W : World) (v : Value) (n b off : Nat) : Prop := ∃ a cap, v = .slice a n cap ∧ n ≤ cap ∧ cap ≤ 9223372036854775807 ∧ (0 < n → a = some ⟨b, off, none⟩ ∧ b < W.heap.size)
theorem Sl.keep {W W' : World} {v : Value} {n b off : Nat} (h : Sl W v n b off) (hb : Below W.heap.size W W') : Sl W' v n b off := by
  obtain ⟨a, cap, h1, h2, h3, h4⟩ := h
  exact ⟨a, cap, h1, h2, h3, fun h0 => ⟨(h4 h0).1, Nat.lt_of_lt_of_le (h4 h0).2 hb.size⟩⟩
theorem Sl.cell {W W' : World} {v : Value} {n b off : Nat} (h : Sl W v n b off) (hb : Below W.heap.size W W') (hn : 0 < n) (o : Nat) : W'.cell? ⟨b, o, none⟩ = W.cell? ⟨b, o, none⟩ := by
  obtain ⟨a, cap, h1, h2, h3, h4⟩ := h
  exact hb.cell (p := ⟨b, o, none⟩) (h4 hn).2
/-- The two slices of one complex selector; R says what its Lists are. -/
structure CxAt (R : Value → List Cx → Prop) (W : World) (pv cv : Value) (c : Cx) (bc oc bp op : Nat) (qv : Nat → Value) (bq oq : Nat → Nat) (lv : Nat → Nat → Value) : Prop where
  cs : Sl W cv c.combs.length bc oc
  cc : ∀ t (h : t < c.combs.length), W.cell? ⟨bc, oc + t, none⟩ = some (.int .i64 (c.combs[t]'h))
  ps : Sl W pv c.parts.length bp op
  pc : ∀ j, j < c.parts.length → W.cell? ⟨bp, op + j, none⟩ = some (qv j)
  qs : ∀ j (h : j < c.parts.length), Sl W (qv j) (c.parts[j]'h).length (bq j) (oq j)
  qc : ∀ j (h : j < c.parts.length) t (h' : t < (c.parts[j]'h).length), ∀ y u, (s7 ((c.parts[j]'h)[t]'h').1 (lv j t))[y]? = some u → W.cell? ⟨bq j, oq j + t * 7 + y, none⟩ = some u
  ls : ∀ j (h : j < c.parts.length) t (h' : t < (c.parts[j]'h).length), R (lv j t) ((c.parts[j]'h)[t]'h').2
/-- A list of selectors. -/
inductive ClAt (W : World) : Value → List Cx → Prop
  | mk (v : Value) (l : List Cx) (b off : Nat) (pv cv : Nat → Value) (bc oc bp op : Nat → Nat) (qv : Nat → Nat → Value) (bq oq : Nat → Nat → Nat) (lv : Nat → Nat → Nat → Value)
      (hs : Sl W v l.length b off)
      (hc : ∀ i, i < l.length → W.cell? ⟨b, off + i * 2, none⟩ = some (pv i) ∧ W.cell? ⟨b, off + i * 2 + 1, none⟩ = some (cv i))
      (h1 : ∀ i (h : i < l.length), Sl W (cv i) (l[i]'h).combs.length (bc i) (oc i))
      (h2 : ∀ i (h : i < l.length) t (h' : t < (l[i]'h).combs.length), W.cell? ⟨bc i, oc i + t, none⟩ = some (.int .i64 ((l[i]'h).combs[t]'h')))
      (h3 : ∀ i (h : i < l.length), Sl W (pv i) (l[i]'h).parts.length (bp i) (op i))
      (h4 : ∀ i (h : i < l.length) j, j < (l[i]'h).parts.length → W.cell? ⟨bp i, op i + j, none⟩ = some (qv i j))
      (h5 : ∀ i (h : i < l.length) j (h' : j < (l[i]'h).parts.length), Sl W (qv i j) ((l[i]'h).parts[j]'h').length (bq i j) (oq i j))
      (h6 : ∀ i (h : i < l.length) j (h' : j < (l[i]'h).parts.length) t (h'' : t < ((l[i]'h).parts[j]'h').length), ∀ y u, (s7 (((l[i]'h).parts[j]'h')[t]'h'').1 (lv i j t))[y]? = some u → W.cell? ⟨bq i j, oq i j + t * 7 + y, none⟩ = some u)
      (hr : ∀ i (h : i < l.length) j (h' : j < (l[i]'h).parts.length) t (h'' : t < ((l[i]'h).parts[j]'h').length), ClAt W (lv i j t) (((l[i]'h).parts[j]'h')[t]'h'').2) : ClAt W v l
theorem ClAt.keep {W W' : World} (hb : Below W.heap.size W W') {v : Value} {l : List Cx} (h : ClAt W v l) : ClAt W' v l := by
  induction h with
  | mk v l b off pv cv bc oc bp op qv bq oq lv hs hc h1 h2 h3 h4 h5 h6 hr ih =>
    refine .mk v l b off pv cv bc oc bp op qv bq oq lv (hs.keep hb) (fun i h => ?_) (fun i h => (h1 i h).keep hb) (fun i h t h' => ?_) (fun i h => (h3 i h).keep hb) (fun i h j h' => ?_) (fun i h j h' => (h5 i h j h').keep hb) (fun i h j h' t h'' y u hu => ?_) ih
    · rw [hs.cell hb (by omega), hs.cell hb (by omega)]
      exact hc i h
    · rw [(h1 i h).cell hb (by omega)]
      exact h2 i h t h'
    · rw [(h3 i h).cell hb (by omega)]
      exact h4 i h j h'
    · rw [(h5 i h j h').cell hb (by omega)]
      exact h6 i h j h' t h'' y u hu
/-- One by one. -/
theorem ClAt.at {W : World} {v : Value} {l : List Cx} (h : ClAt W v l) : ∃ b off, Sl W v l.length b off ∧ ∀ i (hi : i < l.length), ∃ pv cv bc oc bp op qv bq oq lv, W.cell? ⟨b, off + i * 2, none⟩ = some pv ∧ W.cell? ⟨b, off + i * 2 + 1, none⟩ = some cv ∧ CxAt (ClAt W) W pv cv (l[i]'hi) bc oc bp op qv bq oq lv := by
  cases h with
  | mk v l b off pv cv bc oc bp op qv bq oq lv hs hc h1 h2 h3 h4 h5 h6 hr =>
    exact ⟨b, off, hs, fun i hi => ⟨pv i, cv i, bc i, oc i, bp i, op i, qv i, bq i, oq i, lv i, (hc i hi).1, (hc i hi).2, h1 i hi, h2 i hi, h3 i hi, h4 i hi, h5 i hi, h6 i hi, hr i hi⟩⟩
theorem CxAt.keep {W W' : World} (hb : Below W.heap.size W W') {pv cv : Value} {c : Cx} {bc oc bp op : Nat} {qv : Nat → Value} {bq oq : Nat → Nat} {lv : Nat → Nat → Value} (h : CxAt (ClAt W) W pv cv c bc oc bp op qv bq oq lv) : CxAt (ClAt W') W' pv cv c bc oc bp op qv bq oq lv := by
  refine ⟨h.cs.keep hb, fun t ht => ?_, h.ps.keep hb, fun j hj => ?_, fun j hj => (h.qs j hj).keep hb, fun j hj t ht y u hu => ?_, fun j hj t ht => (h.ls j hj t ht).keep hb⟩
  · rw [h.cs.cell hb (by omega)]; exact h.cc t ht
  · rw [h.ps.cell hb (by omega)]; exact h.pc j hj
  · rw [(h.qs j hj).cell hb (by omega)]; exact h.qc j hj t ht y u hu
/-- How much there is, down to a depth. -/
def wtS (f : List Cx → Nat) (x : S6 × List Cx) : Nat := 1 + (x.1.nm.size + x.1.v.size) / 20 + f x.2
def wtP (f : List Cx → Nat) (p : List (S6 × List Cx)) : Nat := 1 + (p.map (wtS f)).sum
def wtC (f : List Cx → Nat) (c : Cx) : Nat := 1 + c.combs.length + (c.parts.map (wtP f)).sum
def wt : Nat → List Cx → Nat
  | 0, _ => 0
  | d + 1, l => (l.map (wtC (wt d))).sum
theorem sum_take {α : Type} (f : α → Nat) {l : List α} {i : Nat} (h : i < l.length) : ((l.take (i + 1)).map f).sum = ((l.take i).map f).sum + f l[i] := by
  rw [List.take_add_one, List.getElem?_eq_getElem h, Option.toList_some, List.map_append, List.sum_append]
  simp
theorem sum_take_le {α : Type} (f : α → Nat) (l : List α) (i : Nat) : ((l.take i).map f).sum ≤ (l.map f).sum := by
  have h := congrArg (fun x => (x.map f).sum) (List.take_append_drop i l)
  simp only [List.map_append, List.sum_append] at h
  omega
end Go.Proofs.YtdiljkmlneeboaaGreat.B
namespace Go.Proofs.YtdiljkmlneeboaaGreat.B
open Go.RowKit
set_option maxRecDepth 100000

/-- A filter in a block of its own. -/
def FAt (w : World) (b : Nat) (t : TypeId) (f : Flt) : Prop := w.heap[b]? = some (.cells #[.int .u64 (f.a : Int), .int .u64 (f.b : Int), .int .u64 (f.c : Int), .int .u64 (f.d : Int)] t (0, 0))
theorem FAt.cells {w : World} {b : Nat} {t : TypeId} {f : Flt} (h : FAt w b t f) : (w.cell? ⟨b, 0, none⟩ = some (.int .u64 (f.a : Int)) ∧ w.cell? ⟨b, 1, none⟩ = some (.int .u64 (f.b : Int)) ∧ w.cell? ⟨b, 2, none⟩ = some (.int .u64 (f.c : Int)) ∧ w.cell? ⟨b, 3, none⟩ = some (.int .u64 (f.d : Int))) ∧ w.frozen? ⟨b, 0, none⟩ = false ∧ w.frozen? ⟨b, 1, none⟩ = false ∧ w.frozen? ⟨b, 2, none⟩ = false ∧ w.frozen? ⟨b, 3, none⟩ = false := by
  unfold FAt at h
  refine ⟨⟨?_, ?_, ?_, ?_⟩, ?_, ?_, ?_, ?_⟩ <;> simp [World.cell?, World.frozen?, h]
theorem FAt.lt {w : World} {b : Nat} {t : TypeId} {f : Flt} (h : FAt w b t f) : b < w.heap.size := (Array.getElem?_eq_some_iff.1 h).1
theorem FAt.keep {w w' : World} {b : Nat} {t : TypeId} {f : Flt} (h : FAt w b t f) (hb : Below w.heap.size w w') : FAt w' b t f := (hb.block _ h.lt).trans h
theorem FAt.keepB {w w' : World} {b B : Nat} {t : TypeId} {f : Flt} (h : FAt w b t f) (hb : Below B w w') (hl : b < B) : FAt w' b t f := (hb.block _ hl).trans h
theorem set_at {w : World} {b : Nat} {cs : Array Value} {t : TypeId} (i : Nat) (v : Value) (fr : Nat × Nat) (h : w.heap[b]? = some (.cells cs t fr)) : (w.setCell ⟨b, i, none⟩ v).heap[b]? = some (.cells (cs.setIfInBounds i v) t fr) := by
  simp only [World.setCell, Array.getElem?_modify, h, if_pos, Option.map_some, Option.isSome_none, Bool.false_eq_true, if_false]
/-- Another filter laid there. -/
def put4 (w : World) (b : Nat) (r : Flt) : World := (((w.setCell ⟨b, 0, none⟩ (.int .u64 (r.a : Int))).setCell ⟨b, 1, none⟩ (.int .u64 (r.b : Int))).setCell ⟨b, 2, none⟩ (.int .u64 (r.c : Int))).setCell ⟨b, 3, none⟩ (.int .u64 (r.d : Int))
theorem FAt.put {w : World} {b : Nat} {t : TypeId} {f : Flt} (h : FAt w b t f) (r : Flt) : FAt (put4 w b r) b t r := by
  unfold FAt at h
  unfold FAt put4
  rw [set_at 3 _ _ (set_at 2 _ _ (set_at 1 _ _ (set_at 0 _ _ h)))]
  rfl
theorem put4_below {B : Nat} {a w : World} {b : Nat} (h : Below B a w) (hb : B ≤ b) (r : Flt) : Below B a (put4 w b r) :=
  (((h.setCell (p := ⟨b, 0, none⟩) hb _).setCell (p := ⟨b, 1, none⟩) hb _).setCell (p := ⟨b, 2, none⟩) hb _).setCell (p := ⟨b, 3, none⟩) hb _
theorem alloc_at (w : World) (b : Nat) (o : Obj) (hb : b = w.heap.size) : (w.alloc o).heap[b]? = some o := by subst hb; exact heap_alloc_last w o
def fz : Flt := ⟨0, 0, 0, 0⟩
theorem zero_at (w : World) (o : Obj) (t : TypeId) : FAt ((w.alloc o).alloc (.cells #[.int .u64 0, .int .u64 0, .int .u64 0, .int .u64 0] t)) (w.heap.size + 1) t fz := alloc_at _ _ _ (by simp)

set_option maxHeartbeats 1000000 in
theorem add_any (f : Flt) (hf : f.ok) (k : Nat) (hk : k < 4294967296) (w : World) :
    Calls Tryz.prog 17 #[f.v, .int .u32 (k : Int)] w fun e w' => e = .returned (f.add k).v ∧ Below w.heap.size w w' := by
  have h1 := fun w => lit_any f hf k hk w
  have h2 : ∀ w, Calls Tryz.prog 43 #[(f.bit (k % 256)).v, .int .u32 ((k : Int) / 256)] w fun e w' => e = .returned ((f.bit (k % 256)).bit (k / 256 % 256)).v ∧ Below w.heap.size w w' := fun w => by
    rw [show (k : Int) / 256 = ((k / 256 : Nat) : Int) by omega]
    exact lit_any _ (ok_bit hf _) _ (by omega) w
  obtain ⟨g, hg⟩ : ∃ g, g = f.bit (k % 256) := ⟨_, rfl⟩
  have e2 : f.add k = g.bit (k / 256 % 256) := by rw [hg]; rfl
  rw [e2]
  obtain ⟨r, hr⟩ : ∃ r, r = g.bit (k / 256 % 256) := ⟨_, rfl⟩
  rw [← hg] at h1 h2
  rw [← hr] at h2 ⊢
  have hB0 : ∀ o1 o2, Below w.heap.size w ((w.alloc o1).alloc o2) := fun o1 o2 => ((Below.refl _ _).alloc (Nat.le_refl _) _).alloc (by simp) _
  clear hr e2 hg
  unfold Flt.v at *
  go_enter Tryz.func17, Tryz.ntmps17
  go_wp2_with (go_at_call 43; fail)
  refine (h1 _).mono ?_
  rintro e w2 ⟨rfl, hB2⟩
  have hz := (zero_at w (.cells #[.int .u64 (f.a : Int), .int .u64 (f.b : Int), .int .u64 (f.c : Int), .int .u64 (f.d : Int)] 35) 35).keep hB2
  have HB2 := hid_mk ((hB0 _ _).trans (hB2.mono (hB0 _ _).size))
  have HZ := hid_mk hz
  clear h1 hB0 hB2 hz
  go_wp2_with (go_at_call 43; fail)
  refine (h2 _).mono ?_
  rintro e w3 ⟨rfl, hB3⟩
  have HZ3 := hid_mk (HZ.out.keep hB3)
  have HB3 := hid_mk (HB2.out.trans (hB3.mono HB2.out.size))
  obtain ⟨⟨k0, k1, k2, k3⟩, f0, f1, f2, f3⟩ := HZ3.out.cells
  clear h2 hB3 HZ HB2
  go_wp2
  have hr := (HZ3.out.put r).cells.1
  have hB := put4_below HB3.out (Nat.le_succ _) r
  unfold put4 at hr hB
  generalize (((w3.setCell ⟨w.heap.size + 1, 0, none⟩ (.int .u64 (r.a : Int))).setCell ⟨w.heap.size + 1, 1, none⟩ (.int .u64 (r.b : Int))).setCell ⟨w.heap.size + 1, 2, none⟩ (.int .u64 (r.c : Int))).setCell ⟨w.heap.size + 1, 3, none⟩ (.int .u64 (r.d : Int)) = W at *
  obtain ⟨j0, j1, j2, j3⟩ := hr
  clear k0 k1 k2 k3 f0 f1 f2 f3
  refine bodyPost_ret (v := r.v) (by simp [results, Tryz.results17, go_sem, Flt.v, j0, j1, j2, j3]) rfl ⟨rfl, hB⟩

set_option maxHeartbeats 1000000 in
theorem radd_any (f : Flt) (hf : f.ok) (k : Nat) (hk : k < 4294967296) (w : World) :
    Calls Tryz.prog 39 #[f.v, .int .u32 (k : Int)] w fun e w' => e = .returned (f.add k).v ∧ Below w.heap.size w w' := by
  have h1 : ∀ w, Calls Tryz.prog 76 #[f.v, .int .u32 ((k : Int) % 256)] w fun e w' => e = .returned (f.bit (k % 256)).v ∧ Below w.heap.size w w' := fun w => by
    rw [show (k : Int) % 256 = ((k % 256 : Nat) : Int) by omega]
    exact rbit_any _ hf _ (by omega) w
  have h2 : ∀ w, Calls Tryz.prog 76 #[(f.bit (k % 256)).v, .int .u32 ((k : Int) / 256 % 256)] w fun e w' => e = .returned ((f.bit (k % 256)).bit (k / 256 % 256)).v ∧ Below w.heap.size w w' := fun w => by
    rw [show (k : Int) / 256 % 256 = ((k / 256 % 256 : Nat) : Int) by omega]
    exact rbit_any _ (ok_bit hf _) _ (by omega) w
  obtain ⟨g, hg⟩ : ∃ g, g = f.bit (k % 256) := ⟨_, rfl⟩
  have e2 : f.add k = g.bit (k / 256 % 256) := by rw [hg]; rfl
  rw [e2]
  obtain ⟨r, hr⟩ : ∃ r, r = g.bit (k / 256 % 256) := ⟨_, rfl⟩
  rw [← hg] at h1 h2
  rw [← hr] at h2 ⊢
  have hB0 : ∀ o1 o2, Below w.heap.size w ((w.alloc o1).alloc o2) := fun o1 o2 => ((Below.refl _ _).alloc (Nat.le_refl _) _).alloc (by simp) _
  clear hr e2 hg
  unfold Flt.v at *
  go_enter Tryz.func39, Tryz.ntmps39
  go_wp2_with (go_at_call 76; fail)
  refine (h1 _).mono ?_
  rintro e w2 ⟨rfl, hB2⟩
  have hz := (zero_at w (.cells #[.int .u64 (f.a : Int), .int .u64 (f.b : Int), .int .u64 (f.c : Int), .int .u64 (f.d : Int)] 34) 34).keep hB2
  have HB2 := hid_mk ((hB0 _ _).trans (hB2.mono (hB0 _ _).size))
  have HZ := hid_mk hz
  clear h1 hB0 hB2 hz
  go_wp2_with (go_at_call 76; fail)
  refine (h2 _).mono ?_
  rintro e w3 ⟨rfl, hB3⟩
  have HZ3 := hid_mk (HZ.out.keep hB3)
  have HB3 := hid_mk (HB2.out.trans (hB3.mono HB2.out.size))
  obtain ⟨⟨k0, k1, k2, k3⟩, f0, f1, f2, f3⟩ := HZ3.out.cells
  clear h2 hB3 HZ HB2
  go_wp2
  have hr := (HZ3.out.put r).cells.1
  have hB := put4_below HB3.out (Nat.le_succ _) r
  unfold put4 at hr hB
  generalize (((w3.setCell ⟨w.heap.size + 1, 0, none⟩ (.int .u64 (r.a : Int))).setCell ⟨w.heap.size + 1, 1, none⟩ (.int .u64 (r.b : Int))).setCell ⟨w.heap.size + 1, 2, none⟩ (.int .u64 (r.c : Int))).setCell ⟨w.heap.size + 1, 3, none⟩ (.int .u64 (r.d : Int)) = W at *
  obtain ⟨j0, j1, j2, j3⟩ := hr
  clear k0 k1 k2 k3 f0 f1 f2 f3
  refine bodyPost_ret (v := r.v) (by simp [results, Tryz.results39, go_sem, Flt.v, j0, j1, j2, j3]) rfl ⟨rfl, hB⟩

end Go.Proofs.YtdiljkmlneeboaaGreat.B
namespace Go.Proofs.YtdiljkmlneeboaaGreat.B
open Go.RowKit
set_option maxRecDepth 100000

/-- Are two filters one? -/
def Flt.eqb (f g : Flt) : Bool := decide (f.a = g.a ∧ f.b = g.b ∧ f.c = g.c ∧ f.d = g.d)

theorem u64_eq (w : World) (d : Nat) (a b : Int) : (Op.equalIn (d + 1) 33 (.int .u64 a) (.int .u64 b)).run Tryz.prog w = .ok (a == b) w := by
  simp [Op.equalIn, run_underlying Tryz.underlying33]
theorem items_step (w : World) (xs ys : Array Value) (i : Nat) (is : List Nat) (x y : Nat) (hx : xs[i]? = some (.int .u64 (x : Int))) (hy : ys[i]? = some (.int .u64 (y : Int))) (r : Bool) (hr : (Op.eqItems 9999 33 1 xs ys is).run Tryz.prog w = .ok r w) :
    (Op.eqItems 9999 33 1 xs ys (i :: is)).run Tryz.prog w = .ok (decide (x = y) && r) w := by
  have a1 := Tryz.isAgg33
  have h1 : ∀ a b, (Op.equalIn 9999 33 (.int .u64 a) (.int .u64 b)).run Tryz.prog w = .ok (a == b) w := u64_eq w 9998
  have e1 : ((x : Int) == (y : Int)) = decide (x = y) := by
    by_cases h : x = y
    · subst h; simp
    · rw [decide_eq_false h]; exact beq_eq_false_iff_ne.2 (by omega)
  simp only [Op.eqItems, part, Sem.run_bind, a1, Result.andThen_ok, Bool.false_eq_true, if_false, Nat.mul_one, hx, hy, Sem.run_pure, h1, e1]
  by_cases h : x = y
  · simp [h, hr]
  · simp [h]
theorem flt_eq0 {t : TypeId} (ht : Tryz.prog.underlying t = some (.array 4 33)) (w : World) (g f : Flt) : (Op.equalIn 10000 t (.agg #[.int .u64 (g.a : Int), .int .u64 (g.b : Int), .int .u64 (g.c : Int), .int .u64 (g.d : Int)]) (.agg #[.int .u64 (f.a : Int), .int .u64 (f.b : Int), .int .u64 (f.c : Int), .int .u64 (f.d : Int)])).run Tryz.prog w = .ok (g.eqb f) w := by
  obtain ⟨i, hi⟩ : ∃ i, Tryz.prog.info? 33 = some i := ⟨_, by rfl⟩
  rw [run_equalIn_array w 9999 _ _ ht hi, show Tryz.prog.cellsOf 33 = 1 by kernel_rfl, show List.range 4 = [0, 1, 2, 3] from rfl]
  rw [items_step w _ _ 0 _ g.a f.a rfl rfl _ (items_step w _ _ 1 _ g.b f.b rfl rfl _ (items_step w _ _ 2 _ g.c f.c rfl rfl _ (items_step w _ _ 3 _ g.d f.d rfl rfl true (by simp [Op.eqItems]))))]
  congr 1
  rw [Bool.eq_iff_iff]
  simp [Flt.eqb]
theorem flt_eq (w : World) (g f : Flt) : (Op.equalIn 10000 35 (.agg #[.int .u64 (g.a : Int), .int .u64 (g.b : Int), .int .u64 (g.c : Int), .int .u64 (g.d : Int)]) (.agg #[.int .u64 (f.a : Int), .int .u64 (f.b : Int), .int .u64 (f.c : Int), .int .u64 (f.d : Int)])).run Tryz.prog w = .ok (g.eqb f) w := flt_eq0 Tryz.underlying35 w g f
theorem rflt_eq (w : World) (g f : Flt) : (Op.equalIn 10000 34 (.agg #[.int .u64 (g.a : Int), .int .u64 (g.b : Int), .int .u64 (g.c : Int), .int .u64 (g.d : Int)]) (.agg #[.int .u64 (f.a : Int), .int .u64 (f.b : Int), .int .u64 (f.c : Int), .int .u64 (f.d : Int)])).run Tryz.prog w = .ok (g.eqb f) w := flt_eq0 Tryz.underlying34 w g f

set_option maxHeartbeats 1000000 in
theorem has_any (f : Flt) (hf : f.ok) (k : Nat) (hk : k < 4294967296) (w : World) :
    Calls Tryz.prog 19 #[f.v, .int .u32 (k : Int)] w fun e w' => e = .returned (.bool ((f.add k).eqb f)) ∧ Below w.heap.size w w' := by
  obtain ⟨W0, hW0⟩ : ∃ W0, W0 = w.alloc (.cells #[.int .u64 (f.a : Int), .int .u64 (f.b : Int), .int .u64 (f.c : Int), .int .u64 (f.d : Int)] 35) := ⟨_, rfl⟩
  have hB0 : Below w.heap.size w W0 := by rw [hW0]; exact (Below.refl _ _).alloc (Nat.le_refl _) _
  have hF : FAt W0 w.heap.size 35 f := by rw [hW0]; exact alloc_at _ _ _ rfl
  have HA : Hid (∀ W, Below W0.heap.size W0 W → Calls Tryz.prog 17 #[f.v, .int .u32 (k : Int)] W fun e w' => e = .returned (f.add k).v ∧ Below W0.heap.size W0 w') := fun W hW =>
    (add_any f hf k hk W).mono fun e w' h => ⟨h.1, hW.trans (h.2.mono hW.size)⟩
  obtain ⟨g, hg⟩ : ∃ g, g = f.add k := ⟨_, rfl⟩
  rw [← hg] at HA ⊢
  have HF : Hid (∀ w', Below W0.heap.size W0 w' → w'.cell? ⟨w.heap.size, 0, none⟩ = some (.int .u64 (f.a : Int)) ∧ w'.cell? ⟨w.heap.size, 1, none⟩ = some (.int .u64 (f.b : Int)) ∧ w'.cell? ⟨w.heap.size, 2, none⟩ = some (.int .u64 (f.c : Int)) ∧ w'.cell? ⟨w.heap.size, 3, none⟩ = some (.int .u64 (f.d : Int))) := fun w' hw' => (hF.keep hw').cells.1
  have gd : Below W0.heap.size W0 W0.drew := (Below.refl _ _).drew
  have HB0 := hid_mk hB0
  have HS := hid_mk hF.lt
  have HA0 := HA.out _ gd
  have HW0 := hid_mk hW0
  have hE := fun W => flt_eq W g f
  unfold Flt.v at *
  clear hg hF hB0
  go_enter Tryz.func19, Tryz.ntmps19
  go_upto_region 1 with (fail)
  rw [← HW0.out]
  clear hW0 HW0
  go_region_held3 (fun w' => w'.cell? ⟨w.heap.size, 0, none⟩ = some (.int .u64 (f.a : Int)) ∧ w'.cell? ⟨w.heap.size, 1, none⟩ = some (.int .u64 (f.b : Int)) ∧ w'.cell? ⟨w.heap.size, 2, none⟩ = some (.int .u64 (f.c : Int)) ∧ w'.cell? ⟨w.heap.size, 3, none⟩ = some (.int .u64 (f.d : Int)))
    (first | with_reducible exact HF.out _ gd | with_reducible exact HF.out _ gb)
    (first | (go_at_call 17; refine HA0.mono ?_; rintro e w3 ⟨rfl, gb⟩))
  have HB := hid_mk (HB0.out.trans (gb.mono HB0.out.size))
  clear gb gd HA0 HA hE HF
  go_wp2
  go_ret
  exact ⟨rfl, HB.out⟩
end Go.Proofs.YtdiljkmlneeboaaGreat.B
namespace Go.Proofs.YtdiljkmlneeboaaGreat.B
open Go.RowKit
set_option maxRecDepth 100000

/-- A number with a byte more. -/
def mixN (h b : Nat) : Nat := (h ^^^ b) * 16777619 % 4294967296
theorem mixN_lt (h b : Nat) : mixN h b < 4294967296 := Nat.mod_lt _ (by decide)
def bytesL (s : ByteArray) : List Nat := s.data.toList.map (·.toNat)
theorem bytesL_len (s : ByteArray) : (bytesL s).length = s.size := by simp [bytesL]
theorem bytesL_at (s : ByteArray) (t : Nat) (h : t < s.size) : (bytesL s)[t]? = some s[t].toNat := by
  have hd : t < s.data.size := h
  have hgs : s[t] = s.data[t] := rfl
  rw [hgs, bytesL, List.getElem?_map, Array.getElem?_toList, Array.getElem?_eq_getElem hd]
  rfl
def keyAt (h0 : Nat) (l : List Nat) (t : Nat) : Nat := (l.take t).foldl mixN h0
def keyN (k : Nat) (s : ByteArray) : Nat := keyAt 2166136261 (k :: bytesL s) (s.size + 1)
theorem foldl_take {α β : Type} (f : β → α → β) {h0 : β} {l : List α} {t : Nat} {b : α} (h : l[t]? = some b) : (l.take (t + 1)).foldl f h0 = f ((l.take t).foldl f h0) b := by
  rw [List.take_add_one, h, List.foldl_append]
  rfl
theorem foldl_none {α β : Type} (f : β → α → β) {h0 : β} {l : List α} {t : Nat} (h : l[t]? = none) : (l.take (t + 1)).foldl f h0 = (l.take t).foldl f h0 := by
  rw [List.take_add_one, h]
  simp
theorem keyAt_succ {h0 : Nat} {l : List Nat} {t b : Nat} (h : l[t]? = some b) : keyAt h0 l (t + 1) = mixN (keyAt h0 l t) b := foldl_take mixN h
theorem keyAt_lt {h0 : Nat} (hh : h0 < 4294967296) (l : List Nat) : ∀ t, keyAt h0 l t < 4294967296
  | 0 => by simpa [keyAt] using hh
  | t + 1 => by
    cases h : l[t]? with
    | none =>
      have : keyAt h0 l (t + 1) = keyAt h0 l t := foldl_none mixN h
      rw [this]; exact keyAt_lt hh l t
    | some b => rw [keyAt_succ h]; exact mixN_lt _ _
theorem keyAt_zero (h0 : Nat) (l : List Nat) : keyAt h0 l 0 = h0 := by simp [keyAt]

theorem bits_xor_u32_nat (a b : Nat) (ha : a < 4294967296) (hb : b < 4294967296) :
    bits .xor .u32 (a : Int) (b : Int) = ((a ^^^ b : Nat) : Int) := by
  have hx : a ^^^ b < 2 ^ 32 := Nat.xor_lt_two_pow (by omega) (by omega)
  have h1 : (BitVec.ofInt 32 (a : Int)).toNat = a := by
    rw [BitVec.ofInt_natCast, BitVec.toNat_ofNat]; exact Nat.mod_eq_of_lt (by omega)
  have h2 : (BitVec.ofInt 32 (b : Int)).toNat = b := by
    rw [BitVec.ofInt_natCast, BitVec.toNat_ofNat]; exact Nat.mod_eq_of_lt (by omega)
  show IntKind.u32.wrap ((BitVec.ofInt 32 (a : Int) ^^^ BitVec.ofInt 32 (b : Int)).toNat : Int) = _
  rw [BitVec.toNat_xor, h1, h2, IntKind.wrap_u32]
  omega
theorem mix_int (h b : Nat) (hh : h < 4294967296) (hb : b < 256) : bits .xor .u32 (h : Int) (b : Int) * 16777619 % 4294967296 = ((mixN h b : Nat) : Int) := by
  rw [bits_xor_u32_nat h b hh (by omega)]
  unfold mixN
  omega

set_option maxHeartbeats 400000 in
theorem mixed_any (h b : Nat) (hh : h < 4294967296) (hb : b < 256) (w : World) :
    Calls Tryz.prog 47 #[.int .u32 (h : Int), .int .u8 (b : Int)] w fun e w' => e = .returned (.int .u32 (mixN h b : Nat)) ∧ w' = w := by
  have HM := hid_mk (mix_int h b hh hb)
  go_enter Tryz.func47, Tryz.ntmps47
  go_wp2
  go_ret
  rw [HM.out]
  exact ⟨rfl, rfl⟩

set_option maxHeartbeats 1000000 in
theorem key_run (kind : Int) (s : ByteArray) (hs : s.size ≤ 140737488351232) (kb : Nat) (hkb : kind % 256 = kb) (KA : Nat → Nat) (HK0 : Hid (KA 1 = mixN 2166136261 kb)) (HKL : Hid (∀ t, KA t < 4294967296)) (HKS : Hid (∀ (t : Nat) (_ : t < s.size), KA (t + 1 + 1) = mixN (KA (t + 1)) s[t].toNat)) (w : World) :
    Calls Tryz.prog 21 #[.int .i64 kind, .string s] w fun e w' => e = .returned (.int .u32 (KA (s.size + 1) : Nat)) ∧ w' = w := by
  have hk2 : kb < 256 := by omega
  have h0 : ∀ w, Calls Tryz.prog 47 #[.int .u32 2166136261, .int .u8 (kb : Int)] w fun e w' => e = .returned (.int .u32 (KA 1 : Nat)) ∧ w' = w := fun w => by
    rw [HK0.out]
    exact mixed_any 2166136261 kb (by decide) hk2 w
  clear HK0
  obtain ⟨R, hR⟩ : ∃ R, R = KA (s.size + 1) := ⟨_, rfl⟩
  rw [← hR]
  have HR := hid_mk hR
  clear hR
  go_enter Tryz.func21, Tryz.ntmps21
  go_wp2_with (go_at_call 47; fail)
  refine (h0 _).mono ?_
  rintro e w' ⟨rfl, rfl⟩
  go_wp2
  go_loopw [5, 12] (fun a5 a12 wq => ∃ t : Nat, t ≤ s.size ∧ a5 = .int .u32 (KA (t + 1) : Nat) ∧ a12 = .int .i64 (t : Int) ∧ wq = w') (fun _ a12 _ => s.size + 1 - (intOf a12).toNat)
  case atStart => exact ⟨0, Nat.zero_le _, rfl, rfl, rfl⟩
  case round =>
    obtain ⟨t, ht, rfl, rfl, rfl⟩ := hrel
    by_cases htl : t < s.size
    · have h1 : ∀ w, Calls Tryz.prog 47 #[.int .u32 (KA (t + 1) : Nat), .int .u8 (s[t].toNat : Int)] w fun e w' => e = .returned (.int .u32 (KA (t + 1 + 1) : Nat)) ∧ w' = w := fun w => by
        rw [HKS.out t htl]
        exact mixed_any _ _ (HKL.out _) (UInt8.toNat_lt _) w
      clear h0 HKL HKS HR
      generalize KA (t + 1) = ka at *
      obtain ⟨kc, hkc⟩ : ∃ kc, kc = KA (t + 1 + 1) := ⟨_, rfl⟩
      have HKC := hid_mk hkc
      rw [← hkc] at h1
      clear hkc
      go_wp2_with (go_at_call 47; fail)
      refine (h1 _).mono ?_
      rintro e w' ⟨rfl, rfl⟩
      clear h1
      go_wp2
      exact ⟨⟨t + 1, htl, by rw [HKC.out], by go_num, trivial⟩, by simp only [intOf]; omega⟩
    · obtain rfl : t = s.size := by omega
      clear h0 HKL HKS
      rw [← HR.out]
      clear HR
      go_wp2
      go_ret
      exact ⟨rfl, rfl⟩
theorem key_any (kind : Int) (s : ByteArray) (hs : s.size ≤ 140737488351232) (w : World) :
    Calls Tryz.prog 21 #[.int .i64 kind, .string s] w fun e w' => e = .returned (.int .u32 (keyN (kind % 256).toNat s : Nat)) ∧ w' = w := by
  refine key_run kind s hs (kind % 256).toNat (by omega) (keyAt 2166136261 ((kind % 256).toNat :: bytesL s)) ?_ (keyAt_lt (by decide) _) (fun t ht => keyAt_succ (by rw [List.getElem?_cons_succ]; exact bytesL_at s t ht)) w
  rw [Hid, keyAt_succ (t := 0) (b := (kind % 256).toNat) rfl, keyAt_zero]

end Go.Proofs.YtdiljkmlneeboaaGreat.B
namespace Go.Proofs.YtdiljkmlneeboaaGreat.B
open Go.RowKit
set_option maxRecDepth 100000

theorem info5 : ∃ i, Tryz.prog.info? 5 = some i ∧ i.zero = some (.int .u8 0) ∧ i.size = 1 ∧ i.bytes = 1 := ⟨_, by rfl, by rfl, by rfl, by rfl⟩
theorem own_one (W : World) (e : TypeId) (x : Value) : (W.alloc (.cells #[x] e)).ownsRow W.heap.size e 1 (.slice (some ⟨W.heap.size, 0, none⟩) 1 1) 1 [x] :=
  ⟨by simp, .inr ⟨W.heap.size, 1, #[x], rfl, Nat.le_refl _, heap_alloc_last W _, Nat.le_refl _, by decide, by simp, by simp⟩⟩

set_option maxHeartbeats 1000000 in
theorem rkey_run (kind : Int) (s : ByteArray) (hs : s.size ≤ 5000) (kb : Nat) (hkb : kind % 256 = kb) (KA : Nat → Nat) (HK0 : Hid ((KA 0 : Int) = 2166136261)) (HKS : Hid (∀ (t b : Nat), (kb :: bytesL s)[t]? = some b → b < 256 ∧ bits .xor .u32 (KA t : Int) (b : Int) * 16777619 % 4294967296 = (KA (t + 1) : Nat))) (w : World) :
    Calls Tryz.prog 22 #[.int .i64 kind, .string s] w fun e w' => e = .returned (.int .u32 (KA (s.size + 1) : Nat)) ∧ Below w.heap.size w w' := by
  obtain ⟨i0, hi, hz0, hz1, hz2⟩ := info5
  have hk2 : kb < 256 := by omega
  obtain ⟨R, hR⟩ : ∃ R, R = KA (s.size + 1) := ⟨_, rfl⟩
  rw [← hR]
  have HR := hid_mk hR
  have ho := own_one w 5 (.int .u8 (kb : Int))
  clear hR
  go_enter Tryz.func22, Tryz.ntmps22
  go_wp2_with (at_builtin; with_reducible refine Lib.wpList_append_own_string _ rfl _ _ 92 9 rfl w.heap.size 5 i0 Tryz.underlying92 Tryz.underlying9 hi hz0 hz1 hz2 (.slice (some ⟨w.heap.size, 0, none⟩) 1 1) 1 [.int .u8 (kb : Int)] rfl ho s rfl ?c3 ?c4 ?c5 ?_)
  case c3 => unfold maxLen; omega
  case c4 => omega
  case c5 => simp
  intro v' w2 ho2 hg _
  have hB2 : Below w.heap.size w w2 := by
    have h1 : Below w.heap.size w (w.alloc (.cells #[.int .u8 (kb : Int)] 5)) := (Below.refl _ _).alloc (Nat.le_refl _) _
    refine ⟨hg.os.trans h1.os, hg.tape.trans h1.tape, hg.output.trans h1.output, Nat.le_trans h1.size hg.size, fun k hk => ?_⟩
    rw [hg.block k (Nat.lt_of_lt_of_le hk h1.size) (fun e => by have e2 : k = w.heap.size := Option.some.inj e; omega)]
    exact h1.block k hk
  obtain ⟨g, cap, rfl⟩ : ∃ g cap, v' = .slice (some ⟨g, 0, none⟩) (1 + s.size) cap := by
    rcases ho2.2 with ⟨_, h0⟩ | ⟨g, cap, cur, e, _⟩
    · omega
    · exact ⟨g, cap, e⟩
  have HC : Hid (∀ (t b : Nat), (kb :: bytesL s)[t]? = some b → w2.cell? ⟨g, t, none⟩ = some (.int .u8 (b : Int))) := fun t b hb => by
    have h1 : ((kb :: bytesL s).map fun x : Nat => Value.int .u8 (x : Int)) = .int .u8 (kb : Int) :: Lib.strCells s := by
      simp [bytesL, Lib.strCells]
    have hl : t < (kb :: bytesL s).length := (List.getElem?_eq_some_iff.1 hb).1
    have hl2 : t < 1 + s.size := by rw [List.length_cons, bytesL_len] at hl; omega
    have h2 := ho2.cellAt t (by omega)
    rw [h2]
    have h3 : (Value.int .u8 (kb : Int) :: Lib.strCells s)[t]? = some (.int .u8 (b : Int)) := by rw [← h1, List.getElem?_map, hb]; rfl
    exact h3
  have HB2 := hid_mk hB2
  clear ho ho2 hg hB2 hi hz0 hz1 hz2
  have HLEN : Hid ((kb :: bytesL s).length = 1 + s.size) := by rw [Hid, List.length_cons, bytesL_len]; omega
  have e0 : (2166136261 : Int) = (KA 0 : Int) := HK0.out.symm
  have HCC : Hid (∀ t : Nat, t < 1 + s.size → ∃ b : Nat, b < 256 ∧ w2.cell? ⟨g, t, none⟩ = some (.int .u8 (b : Int)) ∧ Hid (bits .xor .u32 (KA t : Int) (b : Int) * 16777619 % 4294967296 = (KA (t + 1) : Nat))) := fun t ht => by
    have hl : t < (kb :: bytesL s).length := by rw [HLEN.out]; exact ht
    obtain ⟨b, hb⟩ : ∃ b, (kb :: bytesL s)[t]? = some b := ⟨_, List.getElem?_eq_getElem hl⟩
    exact ⟨b, (HKS.out t b hb).1, HC.out t b hb, (HKS.out t b hb).2⟩
  have HSZ : Hid (1 + s.size = s.size + 1) := Nat.add_comm _ _
  have hcap : 1 + s.size ≤ 5001 := by omega
  have HE0 := hid_mk e0
  clear e0 HKS HC HLEN HK0 hkb hk2
  generalize 1 + s.size = n at *
  go_wp2
  go_loopw [5, 14] (fun a5 a14 wq => ∃ t : Nat, t ≤ n ∧ a5 = .int .u32 (KA t : Int) ∧ a14 = .int .i64 (t : Int) ∧ wq = w2) (fun _ a14 _ => n + 1 - (intOf a14).toNat)
  case atStart => exact ⟨0, Nat.zero_le _, by rw [HE0.out], rfl, rfl⟩
  case round =>
    obtain ⟨t, ht, rfl, rfl, rfl⟩ := hrel
    by_cases htl : t < n
    · obtain ⟨b, hb, hc, HX⟩ := HCC.out t htl
      clear HCC HR HE0 HSZ
      obtain ⟨kc, hkc⟩ : ∃ kc, kc = KA (t + 1) := ⟨_, rfl⟩
      have HKC := hid_mk hkc
      rw [← hkc] at HX
      clear hkc
      generalize KA t = ka at *
      go_wp2
      refine ⟨⟨t + 1, htl, ?_, by go_num, trivial⟩, by simp only [intOf]; omega⟩
      rw [HX.out, HKC.out]
    · obtain rfl : t = n := by omega
      clear HCC HE0
      have HR2 : Hid (R = KA t) := by rw [Hid, HSZ.out]; exact HR.out
      rw [← HR2.out]
      clear HR HR2 HSZ
      go_wp2
      go_ret
      exact ⟨rfl, HB2.out⟩
theorem rkey_any (kind : Int) (s : ByteArray) (hs : s.size ≤ 5000) (w : World) :
    Calls Tryz.prog 22 #[.int .i64 kind, .string s] w fun e w' => e = .returned (.int .u32 (keyN (kind % 256).toNat s : Nat)) ∧ Below w.heap.size w w' := by
  refine rkey_run kind s hs (kind % 256).toNat (by omega) (keyAt 2166136261 ((kind % 256).toNat :: bytesL s)) ?_ (fun t b hb => ?_) w
  · rw [Hid, keyAt_zero]; rfl
  · have h1 : b < 256 := by
      cases t with
      | zero =>
        rw [List.getElem?_cons_zero] at hb
        have e := Option.some.inj hb
        omega
      | succ t =>
        rw [List.getElem?_cons_succ] at hb
        have hl := (List.getElem?_eq_some_iff.1 hb).1
        rw [bytesL_len] at hl
        rw [bytesL_at s t hl] at hb
        have e := Option.some.inj hb
        rw [← e]
        exact UInt8.toNat_lt _
    exact ⟨h1, by rw [keyAt_succ hb]; exact mix_int _ _ (keyAt_lt (by decide) _ _) h1⟩

end Go.Proofs.YtdiljkmlneeboaaGreat.B
namespace Go.Proofs
open Go.Shelf
shelf_lay Lays.n125 Nm 125 at Tryz as Tryz.laysLen
end Go.Proofs
namespace Go.Proofs.YtdiljkmlneeboaaGreat.B
open Go.RowKit
set_option maxRecDepth 100000

set_option maxHeartbeats 1000000 in
theorem insert_one (g cap : Nat) (w : World) : Calls Tryz.prog 128 #[.slice (some ⟨g, 0, none⟩) 1 cap, .int .i64 0, .int .i64 1] w fun e w' => e = .returned (.tuple #[]) ∧ w' = w := by
  go_enter Tryz.func128, Tryz.ntmps128
  go_wp2
  go_rounds 1
  exact bodyPost_end (v := .tuple #[]) (by simp [results, Tryz.results128, go_sem]) rfl ⟨rfl, rfl⟩
set_option maxHeartbeats 1000000 in
theorem pdq_one (g cap : Nat) (l : Int) (w : World) : Calls Tryz.prog 108 #[.slice (some ⟨g, 0, none⟩) 1 cap, .int .i64 0, .int .i64 1, .int .i64 l] w fun e w' => e = .returned (.tuple #[]) ∧ w' = w := by
  have h1 := insert_one g cap w
  go_enter Tryz.func108, Tryz.ntmps108
  go_wp2
  refine wp_loop_rounds 1 ?_
  rw [rounds_succ]
  go_wp2_with (go_at_call 128; fail)
  refine h1.mono ?_
  rintro e w' ⟨rfl, rfl⟩
  go_wp2
  exact bodyPost_ret (v := .tuple #[]) (by simp [results, Tryz.results108, go_sem]) rfl ⟨rfl, rfl⟩
set_option maxHeartbeats 1000000 in
theorem sort_one (g cap : Nat) (w : World) : Calls Tryz.prog 70 #[.slice (some ⟨g, 0, none⟩) 1 cap] w fun e w' => e = .returned (.tuple #[]) ∧ w' = w := by
  have h1 := fun l => pdq_one g cap l w
  have h2 : Calls Tryz.prog 109 #[.int .u64 1] w _ := Any.bits_Len Tryz.laysLen 1 w (by decide) (by decide)
  go_enter Tryz.func70, Tryz.ntmps70
  go_wp2_with (go_at_call 109; fail)
  refine h2.mono ?_
  rintro e w' ⟨rfl, rfl⟩
  go_wp2_with (go_at_call 108; fail)
  refine (h1 _).mono ?_
  rintro e w' ⟨rfl, rfl⟩
  go_wp2
  exact bodyPost_end (v := .tuple #[]) (by simp [results, Tryz.results70, go_sem]) rfl ⟨rfl, rfl⟩
set_option maxHeartbeats 1000000 in
theorem compact_one (g cap : Nat) (w : World) : Calls Tryz.prog 71 #[.slice (some ⟨g, 0, none⟩) 1 cap] w fun e w' => e = .returned (.slice (some ⟨g, 0, none⟩) 1 cap) ∧ w' = w := by
  go_enter Tryz.func71, Tryz.ntmps71
  go_wp2
  go_ret
  exact ⟨rfl, rfl⟩
end Go.Proofs.YtdiljkmlneeboaaGreat.B
namespace Go.Proofs.YtdiljkmlneeboaaGreat.B
open Go.RowKit
set_option maxRecDepth 100000

/-- All blocks but one are as they were. -/
structure KeepX (b : Nat) (w w' : World) : Prop where
  os : w'.os = w.os
  tape : w'.tape = w.tape
  output : w'.output = w.output
  size : w.heap.size ≤ w'.heap.size
  block : ∀ k, k < w.heap.size → k ≠ b → w'.heap[k]? = w.heap[k]?
theorem KeepX.of {b : Nat} {w w' : World} (h : Below w.heap.size w w') : KeepX b w w' := ⟨h.os, h.tape, h.output, h.size, fun k hk _ => h.block k hk⟩
theorem KeepX.trans {b : Nat} {w w1 w2 : World} (h : KeepX b w w1) (k : KeepX b w1 w2) : KeepX b w w2 :=
  ⟨k.os.trans h.os, k.tape.trans h.tape, k.output.trans h.output, Nat.le_trans h.size k.size, fun j hj hn => (k.block j (Nat.lt_of_lt_of_le hj h.size) hn).trans (h.block j hj hn)⟩
theorem KeepX.below {b B : Nat} {w w' : World} (h : KeepX b w w') (hb : B ≤ b) (hB : B ≤ w.heap.size) : Below B w w' :=
  ⟨h.os, h.tape, h.output, h.size, fun k hk => h.block k (Nat.lt_of_lt_of_le hk hB) (by omega)⟩
def sv (nm : ByteArray) : Array Value := #[.int .i64 1, .string nm, .int .i64 0, .string ⟨#[]⟩, .int .i64 0, .int .i64 0, .slice none 0 0]
def SAt (w : World) (b : Nat) (nm : ByteArray) : Prop := w.heap[b]? = some (.cells #[.int .i64 1, .string nm, .int .i64 0, .string ⟨#[]⟩, .int .i64 0, .int .i64 0, .slice none 0 0] 55 (0, 0))
theorem SAt.cells {w : World} {b : Nat} {nm : ByteArray} (h : SAt w b nm) : (w.cell? ⟨b, 0, none⟩ = some (.int .i64 1) ∧ w.cell? ⟨b, 1, none⟩ = some (.string nm) ∧ w.cell? ⟨b, 2, none⟩ = some (.int .i64 0) ∧ w.cell? ⟨b, 3, none⟩ = some (.string ⟨#[]⟩) ∧ w.cell? ⟨b, 4, none⟩ = some (.int .i64 0) ∧ w.cell? ⟨b, 5, none⟩ = some (.int .i64 0) ∧ w.cell? ⟨b, 6, none⟩ = some (.slice none 0 0)) := by
  unfold SAt at h
  refine ⟨?_, ?_, ?_, ?_, ?_, ?_, ?_⟩ <;> simp [World.cell?, h]
theorem cellAt {w : World} {b : Nat} {cs : Array Value} {t : TypeId} {fr : Nat × Nat} (h : w.heap[b]? = some (.cells cs t fr)) (i : Nat) : w.cell? ⟨b, i, none⟩ = cs[i]? := by
  simp [World.cell?, h]

set_option maxHeartbeats 1000000 in
theorem keyed_a (w : World) : Calls Tryz.prog 79 #[.agg #[.int .i64 1, .string ⟨#[97]⟩, .int .i64 0, .string ⟨#[]⟩, .int .i64 0, .int .i64 0, .slice none 0 0]] w fun e w' => e = .returned (.bool true) ∧ Below w.heap.size w w' := by
  have HB : Hid (∀ o, Below w.heap.size w (w.alloc o)) := fun o => (Below.refl _ _).alloc (Nat.le_refl _) _
  go_enter Tryz.func79, Tryz.ntmps79
  go_wp2
  go_ret
  exact ⟨rfl, HB.out _⟩

def kA : Nat := keyN 1 ⟨#[97]⟩
theorem kA_lt : kA < 4294967296 := keyAt_lt (by decide) _ _
theorem key_a (w : World) : Calls Tryz.prog 21 #[.int .i64 1, .string ⟨#[97]⟩] w fun e w' => e = .returned (.int .u32 (kA : Nat)) ∧ w' = w := key_any 1 ⟨#[97]⟩ (by decide) w
theorem rkey_a (w : World) : Calls Tryz.prog 22 #[.int .i64 1, .string ⟨#[97]⟩] w fun e w' => e = .returned (.int .u32 (kA : Nat)) ∧ Below w.heap.size w w' := rkey_any 1 ⟨#[97]⟩ (by decide) w


set_option maxHeartbeats 2000000 in
theorem asks_26 {w : World} {P C A b : Nat} {v1 v2 : Value} (hP : w.heap[P]? = some (.cells #[.slice (some ⟨A, 0, none⟩) 1 1, v1, v2] 56 (0, 0))) (hC : w.heap[C]? = some (.cells #[.int .i64 2, .int .i64 3] 3 (0, 0))) (hA : SAt w A ⟨#[97]⟩) (hb : b ≠ C) {Q : World → Prop}
    (HT : Hid (∀ w', Below w.heap.size w w' → Calls Tryz.prog 42 #[.int .u32 (kA : Nat), .pointer (some ⟨b, 0, none⟩)] w' fun e w'' => e = .returned (.tuple #[]) ∧ Q w'' ∧ KeepX b w' w'')) :
    Calls Tryz.prog 41 #[.agg #[.slice (some ⟨P, 0, none⟩) 3 3, .slice (some ⟨C, 0, none⟩) 2 2], .func (.func 42) #[] #[.pointer (some ⟨b, 0, none⟩)]] w fun e w' => e = .returned (.tuple #[]) ∧ Q w' ∧ KeepX b w w' := by
  have hlC : C < w.heap.size := (Array.getElem?_eq_some_iff.1 hC).1
  have hlP : P < w.heap.size := (Array.getElem?_eq_some_iff.1 hP).1
  have hlA : A < w.heap.size := (Array.getElem?_eq_some_iff.1 hA).1
  have c0 : w.cell? ⟨C, 0, none⟩ = some (.int .i64 2) := cellAt hC 0
  have p0 : w.cell? ⟨P, 0, none⟩ = some (.slice (some ⟨A, 0, none⟩) 1 1) := cellAt hP 0
  obtain ⟨a0, a1, a2, a3, a4, a5, a6⟩ := hA.cells
  have HC := hid_mk hC
  have HKX := hid_mk hb
  have hk := keyed_a
  have hky := key_a
  clear hC hP hA hb
  go_enter Tryz.func41, Tryz.ntmps41
  go_wp2
  refine wp_loop_rounds 3 ?_
  rw [rounds_succ]
  go_wp2
  refine wp_loop_rounds 2 ?_
  rw [rounds_succ]
  go_wp2_with (go_at_call 79; fail)
  refine (hk _).mono ?_
  rintro e w1 ⟨rfl, hB1⟩
  obtain ⟨wa, hwa⟩ : ∃ wa, wa = w.alloc (.cells #[.slice (some ⟨P, 0, none⟩) 3 3, .slice (some ⟨C, 0, none⟩) 2 2] 45) := ⟨_, rfl⟩
  have hsz : wa.heap.size = w.heap.size + 1 := by rw [hwa]; simp
  rw [← hwa] at hB1
  have hBa : Below w.heap.size w wa := by rw [hwa]; exact (Below.refl _ _).alloc (Nat.le_refl _) _
  have hS1 : SAt w1 (w.heap.size + 1) ⟨#[97]⟩ := (hB1.block _ (by simp; omega)).trans (by rw [← hsz]; exact heap_alloc_last wa _)
  have HB1 : Hid (Below w.heap.size w w1) := hBa.trans ((hBa.alloc hBa.size _ : Below w.heap.size w _).trans (hB1.mono (by simp; omega)) |> fun h => ⟨hB1.os, hB1.tape, hB1.output, by have := hB1.size; simp at this; omega, fun k hk => hB1.block k (by simp; omega) |>.trans (Below.heap_alloc _ _ _ (by omega))⟩)
  obtain ⟨s0, s1, s2, s3, s4, s5, s6⟩ := hS1.cells
  clear hB1 hS1 hk hwa hBa hsz a0 a1 a2 a3 a4 a5 a6 p0 c0
  go_wp2_with (go_at_call 21; fail)
  refine (hky _).mono ?_
  rintro e w2 ⟨rfl, rfl⟩
  clear hky
  have ht := HT.out w2 HB1.out
  clear HT s0 s1 s2 s3 s4 s5 s6
  go_wp2_with (go_at_call 42; fail)
  refine ht.mono ?_
  rintro e w3 ⟨rfl, hQ, hX⟩
  have HQ := hid_mk hQ
  have HX := hid_mk ((KeepX.of (b := b) HB1.out).trans hX)
  have hC3 : w3.heap[C]? = some (.cells #[.int .i64 2, .int .i64 3] 3 (0, 0)) := (HX.out.block C hlC HKX.out.symm).trans HC.out
  have c1 : w3.cell? ⟨C, 1, none⟩ = some (.int .i64 3) := cellAt hC3 1
  clear ht hQ hX hC3 HC
  go_wp2
  rw [rounds_succ]
  go_wp2
  rw [rounds_succ]
  go_wp2
  rw [rounds_succ]
  go_wp2
  exact bodyPost_end (v := .tuple #[]) (by simp [results, Tryz.results41, go_sem]) rfl ⟨rfl, HQ.out, HX.out⟩

set_option maxHeartbeats 2000000 in
theorem asks_27 {w : World} {P C A b : Nat} {v1 v2 : Value} (hP : w.heap[P]? = some (.cells #[.slice (some ⟨A, 0, none⟩) 1 1, v1, v2] 56 (0, 0))) (hC : w.heap[C]? = some (.cells #[.int .i64 2, .int .i64 3] 3 (0, 0))) (hA : SAt w A ⟨#[97]⟩) (hb : b ≠ C) {Q : World → Prop}
    (HT : Hid (∀ w', Below w.heap.size w w' → Calls Tryz.prog 69 #[.int .u32 (kA : Nat), .pointer (some ⟨b, 0, none⟩)] w' fun e w'' => e = .returned (.tuple #[]) ∧ Q w'' ∧ KeepX b w' w'')) :
    Calls Tryz.prog 41 #[.agg #[.slice (some ⟨P, 0, none⟩) 3 3, .slice (some ⟨C, 0, none⟩) 2 2], .func (.func 69) #[] #[.pointer (some ⟨b, 0, none⟩)]] w fun e w' => e = .returned (.tuple #[]) ∧ Q w' ∧ KeepX b w w' := by
  have hlC : C < w.heap.size := (Array.getElem?_eq_some_iff.1 hC).1
  have hlP : P < w.heap.size := (Array.getElem?_eq_some_iff.1 hP).1
  have hlA : A < w.heap.size := (Array.getElem?_eq_some_iff.1 hA).1
  have c0 : w.cell? ⟨C, 0, none⟩ = some (.int .i64 2) := cellAt hC 0
  have p0 : w.cell? ⟨P, 0, none⟩ = some (.slice (some ⟨A, 0, none⟩) 1 1) := cellAt hP 0
  obtain ⟨a0, a1, a2, a3, a4, a5, a6⟩ := hA.cells
  have HC := hid_mk hC
  have HKX := hid_mk hb
  have hk := keyed_a
  have hky := key_a
  clear hC hP hA hb
  go_enter Tryz.func41, Tryz.ntmps41
  go_wp2
  refine wp_loop_rounds 3 ?_
  rw [rounds_succ]
  go_wp2
  refine wp_loop_rounds 2 ?_
  rw [rounds_succ]
  go_wp2_with (go_at_call 79; fail)
  refine (hk _).mono ?_
  rintro e w1 ⟨rfl, hB1⟩
  obtain ⟨wa, hwa⟩ : ∃ wa, wa = w.alloc (.cells #[.slice (some ⟨P, 0, none⟩) 3 3, .slice (some ⟨C, 0, none⟩) 2 2] 45) := ⟨_, rfl⟩
  have hsz : wa.heap.size = w.heap.size + 1 := by rw [hwa]; simp
  rw [← hwa] at hB1
  have hBa : Below w.heap.size w wa := by rw [hwa]; exact (Below.refl _ _).alloc (Nat.le_refl _) _
  have hS1 : SAt w1 (w.heap.size + 1) ⟨#[97]⟩ := (hB1.block _ (by simp; omega)).trans (by rw [← hsz]; exact heap_alloc_last wa _)
  have HB1 : Hid (Below w.heap.size w w1) := hBa.trans ((hBa.alloc hBa.size _ : Below w.heap.size w _).trans (hB1.mono (by simp; omega)) |> fun h => ⟨hB1.os, hB1.tape, hB1.output, by have := hB1.size; simp at this; omega, fun k hk => hB1.block k (by simp; omega) |>.trans (Below.heap_alloc _ _ _ (by omega))⟩)
  obtain ⟨s0, s1, s2, s3, s4, s5, s6⟩ := hS1.cells
  clear hB1 hS1 hk hwa hBa hsz a0 a1 a2 a3 a4 a5 a6 p0 c0
  go_wp2_with (go_at_call 21; fail)
  refine (hky _).mono ?_
  rintro e w2 ⟨rfl, rfl⟩
  clear hky
  have ht := HT.out w2 HB1.out
  clear HT s0 s1 s2 s3 s4 s5 s6
  go_wp2_with (go_at_call 69; fail)
  refine ht.mono ?_
  rintro e w3 ⟨rfl, hQ, hX⟩
  have HQ := hid_mk hQ
  have HX := hid_mk ((KeepX.of (b := b) HB1.out).trans hX)
  have hC3 : w3.heap[C]? = some (.cells #[.int .i64 2, .int .i64 3] 3 (0, 0)) := (HX.out.block C hlC HKX.out.symm).trans HC.out
  have c1 : w3.cell? ⟨C, 1, none⟩ = some (.int .i64 3) := cellAt hC3 1
  clear ht hQ hX hC3 HC
  go_wp2
  rw [rounds_succ]
  go_wp2
  rw [rounds_succ]
  go_wp2
  rw [rounds_succ]
  go_wp2
  exact bodyPost_end (v := .tuple #[]) (by simp [results, Tryz.results41, go_sem]) rfl ⟨rfl, HQ.out, HX.out⟩

end Go.Proofs.YtdiljkmlneeboaaGreat.B
namespace Go.Proofs.YtdiljkmlneeboaaGreat.B
open Go.RowKit
set_option maxRecDepth 100000

set_option maxHeartbeats 1000000 in
theorem tell26 {w : World} {b : Nat} {f : Flt} (hf : f.ok) (h : FAt w b 35 f) (k : Nat) (hk : k < 4294967296) : Calls Tryz.prog 42 #[.int .u32 (k : Nat), .pointer (some ⟨b, 0, none⟩)] w fun e w' => e = .returned (.tuple #[]) ∧ FAt w' b 35 (f.add k) ∧ KeepX b w w' := by
  have ha := add_any f hf k hk w
  have HF := hid_mk h
  obtain ⟨⟨k0, k1, k2, k3⟩, f0, f1, f2, f3⟩ := h.cells
  obtain ⟨r, hr⟩ : ∃ r, r = f.add k := ⟨_, rfl⟩
  rw [← hr] at ha ⊢
  clear hr h
  unfold Flt.v at ha
  go_enter Tryz.func42, Tryz.ntmps42
  go_wp2_with (go_at_call 17; fail)
  refine ha.mono ?_
  rintro e w1 ⟨rfl, hB1⟩
  have HF1 := hid_mk (HF.out.keep hB1)
  have HB1 := hid_mk hB1
  clear k0 k1 k2 k3 f0 f1 f2 f3 HF hB1 ha
  obtain ⟨⟨k0, k1, k2, k3⟩, f0, f1, f2, f3⟩ := HF1.out.cells
  go_wp2
  have hr := HF1.out.put r
  have hX : KeepX b w (put4 w1 b r) := (KeepX.of HB1.out).trans ⟨rfl, rfl, rfl, by simp [put4], fun k hk hn => by
    unfold put4
    rw [Below.heap_setCell _ _ _ _ hn, Below.heap_setCell _ _ _ _ hn, Below.heap_setCell _ _ _ _ hn, Below.heap_setCell _ _ _ _ hn]⟩
  unfold put4 at hr hX
  exact bodyPost_end (v := .tuple #[]) (by simp [results, Tryz.results42, go_sem]) rfl ⟨rfl, hr, hX⟩

theorem info25 : ∃ i z, Tryz.prog.info? 39 = some i ∧ i.zero = some z ∧ i.size = 1 ∧ i.bytes = 4 ∧ z.cells.size = 1 := ⟨_, _, by rfl, by rfl, by rfl, by rfl, by rfl⟩

set_option maxHeartbeats 1000000 in
theorem tell27 {w : World} {b : Nat} (h : w.heap[b]? = some (.cells #[.slice none 0 0] 30 (0, 0))) (k : Nat) : Calls Tryz.prog 69 #[.int .u32 (k : Nat), .pointer (some ⟨b, 0, none⟩)] w fun e w' => e = .returned (.tuple #[]) ∧ (∃ g cap, w'.heap[b]? = some (.cells #[.slice (some ⟨g, 0, none⟩) 1 cap] 30 (0, 0)) ∧ w'.cell? ⟨g, 0, none⟩ = some (.int .u32 (k : Nat)) ∧ g < w'.heap.size) ∧ KeepX b w w' := by
  obtain ⟨i0, z0, hi, hz0, hz1, hz2, hz3⟩ := info25
  have hbl : b < w.heap.size := (Array.getElem?_eq_some_iff.1 h).1
  have c0 : w.cell? ⟨b, 0, none⟩ = some (.slice none 0 0) := cellAt h 0
  have hN : (w.alloc (.cells #[.int .u32 (k : Nat)] 39)).ownsRow w.heap.size 39 1 (.slice none 0 0) 0 [] := ⟨rfl, .inl ⟨rfl, rfl⟩⟩
  have hcell : ∀ (j : Nat) u, [Value.int .u32 ((k : Nat) : Int)][j]? = some u → (w.alloc (.cells #[.int .u32 (k : Nat)] 39)).cell? (Addr.add ⟨w.heap.size, 0, none⟩ j) = some u := fun j u hu => by
    have hj : j = 0 := by
      have := (List.getElem?_eq_some_iff.1 hu).1
      simp at this
      exact this
    subst hj
    rw [← hu]
    show World.cell? _ ⟨w.heap.size, 0 + 0, none⟩ = _
    rw [cellAt (heap_alloc_last w _)]
    rfl
  have HH := hid_mk h
  clear h
  go_enter Tryz.func69, Tryz.ntmps69
  go_wp2_with (at_builtin; with_reducible refine wpList_append_own _ rfl _ _ 30 rfl w.heap.size 39 i0 z0 1 4 Tryz.underlying30 hi hz0 hz1 hz2 hz3 (by decide) (.slice none 0 0) 0 [] rfl hN ⟨w.heap.size, 0, none⟩ 1 1 [.int .u32 ((k : Nat) : Int)] rfl rfl hcell ?c1 ?c2 ?c3 ?c4 ?_)
  case c1 => intro u hu; rw [List.mem_singleton.1 hu]; rfl
  case c2 => decide
  case c3 => decide
  case c4 => simp
  intro v' w2 ho2 hg _
  obtain ⟨g, cap, rfl⟩ : ∃ g cap, v' = .slice (some ⟨g, 0, none⟩) 1 cap := by
    rcases ho2.2 with ⟨_, h0⟩ | ⟨g, cap, cur, e, _⟩
    · omega
    · exact ⟨g, cap, e⟩
  have hX2 : KeepX b w w2 := (KeepX.of ((Below.refl w.heap.size w).alloc (Nat.le_refl _) _)).trans ⟨hg.os, hg.tape, hg.output, hg.size, fun j hj _ => hg.block j hj (by simp [Value.ownBlock])⟩
  have hb2 : w2.heap[b]? = some (.cells #[.slice none 0 0] 30 (0, 0)) := by
    rw [hg.block b (by simp; omega) (by simp [Value.ownBlock]), Below.heap_alloc _ _ _ hbl]
    exact HH.out
  have hgc : w2.cell? ⟨g, 0, none⟩ = some (.int .u32 (k : Nat)) := (ho2.cellAt 0 (by decide)).trans rfl
  have hgl : w.heap.size ≤ g ∧ g < w2.heap.size := by
    rcases ho2.2 with ⟨e, _⟩ | ⟨g', cap', cur, e, hge, hgh, _⟩
    · cases e
    · cases e
      exact ⟨hge, (Array.getElem?_eq_some_iff.1 hgh).1⟩
  have m0 : w2.cell? ⟨b, 0, none⟩ = some (.slice none 0 0) := cellAt hb2 0
  have m1 : w2.frozen? ⟨b, 0, none⟩ = false := by simp [World.frozen?, hb2]
  have HX2 := hid_mk hX2
  have HB2 := hid_mk hb2
  have HG := hid_mk hgc
  clear ho2 hg hX2 hb2 hgc hN hcell c0 HH hi hz0 hz1 hz2 hz3
  go_wp2
  refine bodyPost_end (v := .tuple #[]) (by simp [results, Tryz.results69, go_sem]) rfl ⟨rfl, ⟨g, cap, ?_, ?_, by simpa using hgl.2⟩, HX2.out.trans ⟨rfl, rfl, rfl, by simp, fun j _ hn => Below.heap_setCell _ _ _ _ hn⟩⟩
  · rw [set_at 0 _ _ HB2.out]
    rfl
  · rw [World.cell?_of_block (Below.heap_setCell _ _ _ _ (by dsimp only; omega))]
    exact HG.out

theorem or_ne (x j : Nat) : x ||| 2 ^ j ≠ 0 := fun h => by
  have h1 : (x ||| 2 ^ j).testBit j = true := by rw [Nat.testBit_or, Nat.testBit_two_pow_self, Bool.or_true]
  rw [h] at h1
  simp at h1
theorem bit_ne (f : Flt) (n : Nat) : (f.bit n).eqb fz = false := by
  unfold Flt.eqb fz
  refine decide_eq_false fun h => ?_
  obtain ⟨h1, h2, h3, h4⟩ := h
  unfold Flt.bit at h1 h2 h3 h4
  by_cases e0 : n / 64 = 0
  · rw [if_pos e0] at h1; exact or_ne _ _ h1
  · rw [if_neg e0] at h2 h3 h4
    by_cases e1 : n / 64 = 1
    · rw [if_pos e1] at h2; exact or_ne _ _ h2
    · rw [if_neg e1] at h3 h4
      by_cases e2 : n / 64 = 2
      · rw [if_pos e2] at h3; exact or_ne _ _ h3
      · rw [if_neg e2] at h4; exact or_ne _ _ h4
theorem add_ne (f : Flt) (k : Nat) : (f.add k).eqb fz = false := bit_ne _ _
theorem fz_ok : fz.ok := ⟨by decide, by decide, by decide, by decide⟩
theorem eqb_self (f : Flt) : f.eqb f = true := decide_eq_true ⟨rfl, rfl, rfl, rfl⟩

set_option maxHeartbeats 1000000 in
theorem skip_1 {w : World} {P C A : Nat} {v1 v2 : Value} (hP : w.heap[P]? = some (.cells #[.slice (some ⟨A, 0, none⟩) 1 1, v1, v2] 56 (0, 0))) (hC : w.heap[C]? = some (.cells #[.int .i64 2, .int .i64 3] 3 (0, 0))) (hA : SAt w A ⟨#[97]⟩) :
    Calls Tryz.prog 16 #[.agg #[.int .u64 0, .int .u64 0, .int .u64 0, .int .u64 0], .agg #[.slice (some ⟨P, 0, none⟩) 3 3, .slice (some ⟨C, 0, none⟩) 2 2]] w fun e w' => e = .returned (.bool true) ∧ Below w.heap.size w w' := by
  have hlC : C < w.heap.size := (Array.getElem?_eq_some_iff.1 hC).1
  have hlP : P < w.heap.size := (Array.getElem?_eq_some_iff.1 hP).1
  have hlA : A < w.heap.size := (Array.getElem?_eq_some_iff.1 hA).1
  obtain ⟨w1, hw1⟩ : ∃ w1, w1 = ((w.alloc (.cells #[.int .u64 0, .int .u64 0, .int .u64 0, .int .u64 0] 35)).alloc (.cells #[.slice (some ⟨P, 0, none⟩) 3 3, .slice (some ⟨C, 0, none⟩) 2 2] 45)).alloc (.cells #[.int .u64 0, .int .u64 0, .int .u64 0, .int .u64 0] 35) := ⟨_, rfl⟩
  have hB1 : Below w.heap.size w w1 := by rw [hw1]; exact (((Below.refl _ _).alloc (Nat.le_refl _) _).alloc (by simp) _).alloc (by simp; omega) _
  have hf1 : FAt w1 (w.heap.size + 2) 35 fz := by rw [hw1]; exact alloc_at _ _ _ (by simp)
  have hf0 : FAt w1 w.heap.size 35 fz := by
    rw [hw1]
    unfold FAt
    rw [Below.heap_alloc _ _ _ (by simp; omega), Below.heap_alloc _ _ _ (by simp)]
    exact heap_alloc_last w _
  have hs1 : w1.heap.size = w.heap.size + 3 := by rw [hw1]; simp
  have hask := asks_26 (Q := fun w' => FAt w' (w.heap.size + 2) 35 (fz.add kA)) ((hB1.block _ hlP).trans hP) ((hB1.block _ hlC).trans hC) ((hB1.block _ hlA).trans hA) (b := w.heap.size + 2) (by omega) (fun w' hw' => tell26 fz_ok (hf1.keep hw') kA kA_lt)
  have HF0 := hid_mk hf0
  have HB1 := hid_mk hB1
  have HS1 := hid_mk hs1
  have HW1 := hid_mk hw1
  have hE : ∀ W : World, (Op.equalIn 10000 35 (.agg #[.int .u64 ((fz.add kA).a : Int), .int .u64 ((fz.add kA).b : Int), .int .u64 ((fz.add kA).c : Int), .int .u64 ((fz.add kA).d : Int)]) (.agg #[.int .u64 0, .int .u64 0, .int .u64 0, .int .u64 0])).run Tryz.prog W = .ok false W := fun W => by
    have h := flt_eq W (fz.add kA) fz
    rw [add_ne] at h
    exact h
  generalize fz.add kA = r at hask hE
  clear hB1 hf1 hf0 hs1 hw1 hP hC hA
  go_enter Tryz.func16, Tryz.ntmps16
  go_wp2_with (go_at_call 41; fail)
  rw [← HW1.out]
  refine hask.mono ?_
  rintro e w2 ⟨rfl, hF2, hX⟩
  have hF0 : FAt w2 w.heap.size 35 fz := (hX.block _ (by rw [HS1.out]; omega) (by omega)).trans HF0.out
  have HB := hid_mk (HB1.out.trans (hX.below (B := w.heap.size) (by omega) (by rw [HS1.out]; omega)))
  obtain ⟨k0, k1, k2, k3⟩ := hF2.cells.1
  obtain ⟨m0, m1, m2, m3⟩ := hF0.cells.1
  unfold fz at m0 m1 m2 m3
  clear hask hF2 hX hF0 HF0 HB1 HS1 HW1
  go_wp2
  go_ret
  exact ⟨rfl, HB.out⟩

set_option maxHeartbeats 1000000 in
theorem asks_0 {w : World} {P b : Nat} : Calls Tryz.prog 41 #[.agg #[.slice (some ⟨P, 0, none⟩) 1 1, .slice none 0 0], .func (.func 42) #[] #[.pointer (some ⟨b, 0, none⟩)]] w fun e w' => e = .returned (.tuple #[]) ∧ Below w.heap.size w w' := by
  have HB : Hid (∀ o, Below w.heap.size w (w.alloc o)) := fun o => (Below.refl _ _).alloc (Nat.le_refl _) _
  go_enter Tryz.func41, Tryz.ntmps41
  go_wp2
  refine wp_loop_rounds 1 ?_
  rw [rounds_succ]
  go_wp2
  exact bodyPost_end (v := .tuple #[]) (by simp [results, Tryz.results41, go_sem]) rfl ⟨rfl, HB.out _⟩

set_option maxHeartbeats 1000000 in
theorem skip_0 {w : World} {P : Nat} :
    Calls Tryz.prog 16 #[.agg #[.int .u64 0, .int .u64 0, .int .u64 0, .int .u64 0], .agg #[.slice (some ⟨P, 0, none⟩) 1 1, .slice none 0 0]] w fun e w' => e = .returned (.bool false) ∧ Below w.heap.size w w' := by
  obtain ⟨w1, hw1⟩ : ∃ w1, w1 = ((w.alloc (.cells #[.int .u64 0, .int .u64 0, .int .u64 0, .int .u64 0] 35)).alloc (.cells #[.slice (some ⟨P, 0, none⟩) 1 1, .slice none 0 0] 45)).alloc (.cells #[.int .u64 0, .int .u64 0, .int .u64 0, .int .u64 0] 35) := ⟨_, rfl⟩
  have hB1 : Below w.heap.size w w1 := by rw [hw1]; exact (((Below.refl _ _).alloc (Nat.le_refl _) _).alloc (by simp) _).alloc (by simp; omega) _
  have hf1 : FAt w1 (w.heap.size + 2) 35 fz := by rw [hw1]; exact alloc_at _ _ _ (by simp)
  have hf0 : FAt w1 w.heap.size 35 fz := by
    rw [hw1]
    unfold FAt
    rw [Below.heap_alloc _ _ _ (by simp; omega), Below.heap_alloc _ _ _ (by simp)]
    exact heap_alloc_last w _
  have hask := asks_0 (w := w1) (P := P) (b := w.heap.size + 2)
  have HF0 := hid_mk hf0
  have HF1 := hid_mk hf1
  have HB1 := hid_mk hB1
  have HW1 := hid_mk hw1
  have hE : ∀ W : World, (Op.equalIn 10000 35 (.agg #[.int .u64 0, .int .u64 0, .int .u64 0, .int .u64 0]) (.agg #[.int .u64 0, .int .u64 0, .int .u64 0, .int .u64 0])).run Tryz.prog W = .ok true W := fun W => by
    have h := flt_eq W fz fz
    rw [eqb_self] at h
    exact h
  clear hB1 hf1 hf0 hw1
  go_enter Tryz.func16, Tryz.ntmps16
  go_wp2_with (go_at_call 41; fail)
  rw [← HW1.out]
  refine hask.mono ?_
  rintro e w2 ⟨rfl, hB2⟩
  have hF0 : FAt w2 w.heap.size 35 fz := HF0.out.keep hB2
  have hF2 : FAt w2 (w.heap.size + 2) 35 fz := HF1.out.keep hB2
  have HB := hid_mk (HB1.out.trans (hB2.mono HB1.out.size))
  obtain ⟨k0, k1, k2, k3⟩ := hF2.cells.1
  obtain ⟨m0, m1, m2, m3⟩ := hF0.cells.1
  unfold fz at m0 m1 m2 m3 k0 k1 k2 k3
  clear hask hF2 hB2 hF0 HF0 HF1 HB1 HW1
  go_wp2
  go_ret
  exact ⟨rfl, HB.out⟩

set_option maxHeartbeats 1000000 in
theorem need23 {w : World} {P C A b bc : Nat} {v1 v2 : Value} (hP : w.heap[P]? = some (.cells #[.slice (some ⟨A, 0, none⟩) 1 1, v1, v2] 56 (0, 0))) (hC : w.heap[C]? = some (.cells #[.int .i64 2, .int .i64 3] 3 (0, 0))) (hA : SAt w A ⟨#[97]⟩) (hb : b ≠ C) (hc : w.heap[bc]? = some (.cells #[.slice (some ⟨P, 0, none⟩) 3 3, .slice (some ⟨C, 0, none⟩) 2 2] 45 (0, 0))) (hk : w.heap[b]? = some (.cells #[.slice none 0 0] 30 (0, 0))) :
    Calls Tryz.prog 46 #[.func (.func 69) #[] #[.pointer (some ⟨b, 0, none⟩)], .pointer (some ⟨bc, 0, none⟩)] w fun e w' => e = .returned (.tuple #[]) ∧ (∃ g cap, w'.heap[b]? = some (.cells #[.slice (some ⟨g, 0, none⟩) 1 cap] 30 (0, 0)) ∧ w'.cell? ⟨g, 0, none⟩ = some (.int .u32 (kA : Nat)) ∧ g < w'.heap.size) ∧ KeepX b w w' := by
  have hask := asks_27 (Q := fun w' => ∃ g cap, w'.heap[b]? = some (.cells #[.slice (some ⟨g, 0, none⟩) 1 cap] 30 (0, 0)) ∧ w'.cell? ⟨g, 0, none⟩ = some (.int .u32 (kA : Nat)) ∧ g < w'.heap.size) hP hC hA hb (fun w' hw' => tell27 ((hw'.block _ (Array.getElem?_eq_some_iff.1 hk).1).trans hk) kA)
  have c0 : w.cell? ⟨bc, 0, none⟩ = some (.slice (some ⟨P, 0, none⟩) 3 3) := cellAt hc 0
  have c1 : w.cell? ⟨bc, 1, none⟩ = some (.slice (some ⟨C, 0, none⟩) 2 2) := cellAt hc 1
  clear hP hC hA hb hc hk
  go_enter Tryz.func46, Tryz.ntmps46
  go_wp2_with (go_at_call 41; fail)
  refine hask.mono ?_
  rintro e w2 ⟨rfl, hq, hX⟩
  have HQ := hid_mk hq
  have HX := hid_mk hX
  clear hask hq hX c0 c1
  go_wp2
  exact bodyPost_end (v := .tuple #[]) (by simp [results, Tryz.results46, go_sem]) rfl ⟨rfl, HQ.out, HX.out⟩

set_option maxHeartbeats 1000000 in
theorem needs_1 {w : World} {P C A : Nat} {v1 v2 : Value} (hP : w.heap[P]? = some (.cells #[.slice (some ⟨A, 0, none⟩) 1 1, v1, v2] 56 (0, 0))) (hC : w.heap[C]? = some (.cells #[.int .i64 2, .int .i64 3] 3 (0, 0))) (hA : SAt w A ⟨#[97]⟩) :
    Calls Tryz.prog 20 #[.agg #[.slice (some ⟨P, 0, none⟩) 3 3, .slice (some ⟨C, 0, none⟩) 2 2]] w fun e w' => ∃ g cap, e = .returned (.slice (some ⟨g, 0, none⟩) 1 cap) ∧ w'.cell? ⟨g, 0, none⟩ = some (.int .u32 (kA : Nat)) ∧ g < w'.heap.size ∧ Below w.heap.size w w' := by
  have hlC : C < w.heap.size := (Array.getElem?_eq_some_iff.1 hC).1
  have hlP : P < w.heap.size := (Array.getElem?_eq_some_iff.1 hP).1
  have hlA : A < w.heap.size := (Array.getElem?_eq_some_iff.1 hA).1
  obtain ⟨w1, hw1⟩ : ∃ w1, w1 = w.alloc (.cells #[.slice (some ⟨P, 0, none⟩) 3 3, .slice (some ⟨C, 0, none⟩) 2 2] 45) := ⟨_, rfl⟩
  have hB1 : Below w.heap.size w w1 := by rw [hw1]; exact (Below.refl _ _).alloc (Nat.le_refl _) _
  have hs1 : w1.heap.size = w.heap.size + 1 := by rw [hw1]; simp
  have hc1 : w1.heap[w.heap.size]? = some (.cells #[.slice (some ⟨P, 0, none⟩) 3 3, .slice (some ⟨C, 0, none⟩) 2 2] 45 (0, 0)) := by rw [hw1]; exact heap_alloc_last w _
  have hg : Calls Tryz.prog 30 #[.func (.func 46) #[] #[.pointer (some ⟨w.heap.size, 0, none⟩)]] w1 fun e w' => ∃ g cap, e = .returned (.slice (some ⟨g, 0, none⟩) 1 cap) ∧ w'.cell? ⟨g, 0, none⟩ = some (.int .u32 (kA : Nat)) ∧ g < w'.heap.size ∧ Below w.heap.size w w' := by
    obtain ⟨w2, hw2⟩ : ∃ w2, w2 = w1.alloc (.cells #[.slice none 0 0] 30) := ⟨_, rfl⟩
    have hB2 : Below w1.heap.size w1 w2 := by rw [hw2]; exact (Below.refl _ _).alloc (Nat.le_refl _) _
    have hs2 : w2.heap.size = w.heap.size + 2 := by rw [hw2]; simp; omega
    have hk2 : w2.heap[w1.heap.size]? = some (.cells #[.slice none 0 0] 30 (0, 0)) := by rw [hw2]; exact heap_alloc_last w1 _
    have hn := need23 (b := w1.heap.size) (bc := w.heap.size) ((hB2.block _ (by omega)).trans ((hB1.block _ hlP).trans hP)) ((hB2.block _ (by omega)).trans ((hB1.block _ hlC).trans hC)) ((hB2.block _ (by omega)).trans ((hB1.block _ hlA).trans hA)) (by omega) ((hB2.block _ (by omega)).trans hc1) hk2
    have HW2 := hid_mk hw2
    have HB12 := hid_mk (hB1.trans (hB2.mono hB1.size))
    have HS1 := hid_mk hs1
    have HS2 := hid_mk hs2
    clear hw2 hB2 hk2 hc1 hB1 hs1 hs2 hw1 hP hC hA
    go_enter Tryz.func30, Tryz.ntmps30
    go_wp2_with (go_at_call 46; fail)
    rw [← HW2.out]
    refine hn.mono ?_
    rintro e w3 ⟨rfl, ⟨g, cap, hg, hgc, hgl⟩, hX⟩
    have k0 : w3.cell? ⟨w1.heap.size, 0, none⟩ = some (.slice (some ⟨g, 0, none⟩) 1 cap) := cellAt hg 0
    have HB3 := hid_mk (HB12.out.trans (hX.below (B := w.heap.size) (by rw [HS1.out]; omega) (by rw [HS2.out]; omega)))
    have HGC := hid_mk hgc
    have HGL := hid_mk hgl
    have hso := sort_one g cap w3
    have hco := compact_one g cap w3
    clear hn hg hgc hgl hX HB12 HS1 HS2 HW2
    go_wp2_with (go_at_call 70; fail)
    refine hso.mono ?_
    rintro e w4 ⟨rfl, rfl⟩
    clear hso
    go_wp2_with (go_at_call 71; fail)
    refine hco.mono ?_
    rintro e w5 ⟨rfl, rfl⟩
    go_wp2
    go_ret
    exact ⟨g, cap, rfl, HGC.out, HGL.out, HB3.out⟩
  have HW1 := hid_mk hw1
  clear hw1 hc1 hs1 hB1 hP hC hA
  go_enter Tryz.func20, Tryz.ntmps20
  go_wp2_with (go_at_call 30; fail)
  rw [← HW1.out]
  refine hg.mono ?_
  rintro e w2 ⟨g, cap, rfl, h1, h2, h3⟩
  have HH := hid_mk (And.intro h1 (And.intro h2 h3))
  clear hg h1 h2 h3
  go_wp2
  go_ret
  exact ⟨g, cap, rfl, HH.out⟩

set_option maxHeartbeats 1000000 in
theorem same_1 {w : World} {g c h d k : Nat} (h1 : w.cell? ⟨g, 0, none⟩ = some (.int .u32 (k : Nat))) (h2 : w.cell? ⟨h, 0, none⟩ = some (.int .u32 (k : Nat))) :
    Calls Tryz.prog 8 #[.slice (some ⟨g, 0, none⟩) 1 c, .slice (some ⟨h, 0, none⟩) 1 d] w fun e w' => e = .returned (.bool true) ∧ Below w.heap.size w w' := by
  have hne : (((k : Nat) : Int) != ((k : Nat) : Int)) = false := by simp
  have HB := hid_mk (Below.refl w.heap.size w)
  generalize ((k : Nat) : Int) = kk at *
  go_enter Tryz.func8, Tryz.ntmps8
  go_wp2
  refine wp_loop_rounds 2 ?_
  rw [rounds_succ]
  go_upto_region 6 with (fail)
  go_quiet (fail)
  go_wp2
  rw [rounds_succ]
  go_wp2
  go_ret
  exact ⟨rfl, ⟨HB.out.os, HB.out.tape, HB.out.output, HB.out.size, HB.out.block⟩⟩
end Go.Proofs.YtdiljkmlneeboaaGreat.B
namespace Go.Proofs.YtdiljkmlneeboaaGreat.B
open Go.RowKit
set_option maxRecDepth 100000

def keyedB (s : S6) : Bool := s.k == 3 || s.k == 2 || (s.k == 1 && !(s.nm.toList == [42]))
set_option maxHeartbeats 1000000 in
theorem keyed_any (s : S6) (lv : Value) (w : World) : Calls Tryz.prog 79 #[.agg (s7 s lv).toArray] w fun e w' => e = .returned (.bool (keyedB s)) ∧ Below w.heap.size w w' := by
  unfold s7
  by_cases h3 : s.k = 3
  · have e1 : keyedB s = true := by simp [keyedB, h3]
    rw [e1]
    have q3 : (s.k == 3) = true := by simp [h3]
    clear e1 h3
    have HB : Hid (∀ o, Below w.heap.size w (w.alloc o)) := fun o => (Below.refl _ _).alloc (Nat.le_refl _) _
    go_enter Tryz.func79, Tryz.ntmps79
    go_wp2
    go_ret
    exact ⟨rfl, HB.out _⟩
  by_cases h2 : s.k = 2
  · have e1 : keyedB s = true := by simp [keyedB, h2]
    rw [e1]
    have q3 : (s.k == 3) = false := by simp [h2]
    have q2 : (s.k == 2) = true := by simp [h2]
    clear e1 h2 h3
    have HB : Hid (∀ o, Below w.heap.size w (w.alloc o)) := fun o => (Below.refl _ _).alloc (Nat.le_refl _) _
    go_enter Tryz.func79, Tryz.ntmps79
    go_wp2
    go_ret
    exact ⟨rfl, HB.out _⟩
  by_cases h1 : s.k = 1
  · have e1 : keyedB s = !(s.nm.toList == [42]) := by simp [keyedB, h1]
    rw [e1]
    have q3 : (s.k == 3) = false := by simp [h1]
    have q2 : (s.k == 2) = false := by simp [h1]
    have q1 : (s.k == 1) = true := by simp [h1]
    clear e1 h1 h2 h3
    have HB : Hid (∀ o, Below w.heap.size w (w.alloc o)) := fun o => (Below.refl _ _).alloc (Nat.le_refl _) _
    go_enter Tryz.func79, Tryz.ntmps79
    go_wp2
    go_ret
    exact ⟨rfl, HB.out _⟩
  · have e1 : keyedB s = false := by simp [keyedB, h1, h2, h3]
    rw [e1]
    have q3 : (s.k == 3) = false := by simp [h3]
    have q2 : (s.k == 2) = false := by simp [h2]
    have q1 : (s.k == 1) = false := by simp [h1]
    clear e1 h1 h2 h3
    have HB : Hid (∀ o, Below w.heap.size w (w.alloc o)) := fun o => (Below.refl _ _).alloc (Nat.le_refl _) _
    go_enter Tryz.func79, Tryz.ntmps79
    go_wp2
    go_ret
    exact ⟨rfl, HB.out _⟩

/-- The key of a simple selector. -/
def keyS (s : S6) : Nat := keyN (s.k % 256).toNat s.nm
/-- The keys of the first ones of a Part. -/
def keysP (p : List (S6 × List Cx)) : List Nat := (p.filter fun x => keyedB x.1).map fun x => keyS x.1
/-- What the i-th Comb asks. -/
def asksI (c : Cx) (i : Nat) : List Nat := if c.combs.getD i 0 = 1 ∨ c.combs.getD i 0 = 2 then keysP (c.parts.getD i []) else []
/-- What is asked. -/
def asksL (c : Cx) : List Nat := if c.combs.length + 1 = c.parts.length then (List.range c.combs.length).flatMap (asksI c) else []
theorem range_flat {f : Nat → List Nat} (i : Nat) : (List.range (i + 1)).flatMap f = (List.range i).flatMap f ++ f i := by
  rw [List.range_succ, List.flatMap_append]
  simp
theorem keysP_succ {p : List (S6 × List Cx)} {t : Nat} (h : t < p.length) : keysP (p.take (t + 1)) = keysP (p.take t) ++ (if keyedB p[t].1 then [keyS p[t].1] else []) := by
  unfold keysP
  rw [List.take_add_one, List.getElem?_eq_getElem h, Option.toList_some, List.filter_append, List.map_append]
  congr 1
  cases hk : keyedB p[t].1 <;> simp [List.filter, hk]

set_option maxHeartbeats 4000000 in
theorem asksG_26 {J : List Nat → World → Prop} (HJ : Hid (∀ l w w', J l w → Below w.heap.size w w' → J l w')) {pv cv : Value} {c : Cx} {bc oc bp op : Nat} {qv : Nat → Value} {bq oq : Nat → Nat} {lv : Nat → Nat → Value}
    (HD : Hid (∀ l w, J l w → CxAt (ClAt w) w pv cv c bc oc bp op qv bq oq lv)) (HN : Hid (∀ p ∈ c.parts, ∀ x ∈ p, x.1.nm.size ≤ 140737488351232)) (hlc : c.parts.length ≤ 100000000000000) {b : Nat}
    (HT : Hid (∀ l w k, k < 4294967296 → J l w → Calls Tryz.prog 42 #[.int .u32 ((k : Nat) : Int), .pointer (some ⟨b, 0, none⟩)] w fun e w' => e = .returned (.tuple #[]) ∧ J (l ++ [k]) w' ∧ KeepX b w w'))
    {w : World} {l : List Nat} (h : J l w) (hb : b < w.heap.size) : Calls Tryz.prog 41 #[.agg #[pv, cv], .func (.func 42) #[] #[.pointer (some ⟨b, 0, none⟩)]] w fun e w' => e = .returned (.tuple #[]) ∧ J (l ++ asksL c) w' := by
  have hd := HD.out l w h
  obtain ⟨ca, cc, rfl, hcn, hcm, _⟩ := hd.cs
  obtain ⟨pa, pc, rfl, hpn, hpm, _⟩ := hd.ps
  obtain ⟨w0, hw0⟩ : ∃ w0, w0 = w.alloc (.cells #[.slice pa c.parts.length pc, .slice ca c.combs.length cc] 45) := ⟨_, rfl⟩
  have hB0 : Below w.heap.size w w0 := by rw [hw0]; exact (Below.refl _ _).alloc (Nat.le_refl _) _
  have HX0 : Hid (w0.heap[w.heap.size]? = some (.cells #[.slice pa c.parts.length pc, .slice ca c.combs.length cc] 45 (0, 0))) := by rw [Hid, hw0]; exact heap_alloc_last w _
  have HJ0 := hid_mk (HJ.out _ _ _ h hB0)
  have HBC : Hid (∀ W : World, W.heap[w.heap.size]? = some (.cells #[.slice pa c.parts.length pc, .slice ca c.combs.length cc] 45 (0, 0)) → W.cell? ⟨w.heap.size, 0, none⟩ = some (.slice pa c.parts.length pc) ∧ W.cell? ⟨w.heap.size, 1, none⟩ = some (.slice ca c.combs.length cc)) := fun W hW => ⟨cellAt hW 0, cellAt hW 1⟩
  have HW0 := hid_mk hw0
  have HNE : Hid (b ≠ w.heap.size) := by rw [Hid]; omega
  by_cases hl : c.combs.length + 1 = c.parts.length
  · have HL : Hid (asksL c = (List.range c.combs.length).flatMap (asksI c)) := by rw [Hid]; unfold asksL; rw [if_pos hl]
    have hne : ((c.combs.length : Int) != (c.parts.length : Int) - 1) = false := by
      rw [bne_eq_false_iff_eq]; omega
    have HCS := hid_mk hd.cs
    have HPS := hid_mk hd.ps
    have HHL := hid_mk hl
    have hcl : c.combs.length ≤ 100000000000000 := by omega
    obtain ⟨b0, b1⟩ := HBC.out w0 HX0.out
    clear hl hd h
    go_enter Tryz.func41, Tryz.ntmps41
    go_upto_region 1 with (fail)
    rw [← HW0.out]
    clear hw0 HW0 hB0
    go_wp2
    clear b0 b1
    go_loopw [19] (fun a19 wq => ∃ i : Nat, i ≤ c.combs.length ∧ a19 = .int .i64 (i : Int) ∧ Hid (J (l ++ (List.range i).flatMap (asksI c)) wq) ∧ Hid (wq.heap[w.heap.size]? = some (.cells #[.slice pa c.parts.length pc, .slice ca c.combs.length cc] 45 (0, 0)))) (fun a19 _ => c.combs.length + 1 - (intOf a19).toNat)
    case atStart => exact ⟨0, Nat.zero_le _, rfl, by simpa using HJ0, HX0⟩
    case round =>
      obtain ⟨i, hi, rfl, HJi, HXi⟩ := hrel
      clear HJ0 HX0
      by_cases hil : i < c.combs.length
      · have hdi := HD.out _ _ HJi.out
        obtain ⟨_, _, e1, _, _, hca⟩ := HCS.out
        obtain ⟨rfl, _⟩ : ca = some ⟨bc, oc, none⟩ ∧ True := by cases e1; exact ⟨(hca (by omega)).1, trivial⟩
        have q1 := hdi.cc i hil
        have hip : i < c.parts.length := by have := HHL.out; omega
        obtain ⟨_, _, e2, _, _, hpa⟩ := HPS.out
        obtain ⟨rfl, _⟩ : pa = some ⟨bp, op, none⟩ ∧ True := by cases e2; exact ⟨(hpa (by omega)).1, trivial⟩
        have q2 := hdi.pc i hip
        obtain ⟨qa, qc, e3, hqn, hqm, hqa⟩ := hdi.qs i hip
        rw [e3] at q2
        obtain ⟨p, hp⟩ : ∃ p, p = c.parts[i] := ⟨_, rfl⟩
        rw [← hp] at q2 hqn hqa
        have HAI : Hid (asksI c i = if c.combs[i] = 1 ∨ c.combs[i] = 2 then keysP p else []) := by
          rw [Hid]
          unfold asksI
          rw [List.getD_eq_getElem?_getD, List.getElem?_eq_getElem hil, List.getD_eq_getElem?_getD, List.getElem?_eq_getElem hip, hp]
          rfl
        have HRF : Hid ((List.range (i + 1)).flatMap (asksI c) = (List.range i).flatMap (asksI c) ++ asksI c i) := range_flat i
        have HPN : Hid (∀ t (h : t < p.length), p[t].1.nm.size ≤ 140737488351232) := fun t h => HN.out p (by rw [hp]; exact List.getElem_mem hip) _ (List.getElem_mem h)
        have HQA := hid_mk hqa
        have HQD : Hid (∀ L W, J L W → ∀ t (h : t < p.length), ∀ y u, (s7 p[t].1 (lv i t))[y]? = some u → W.cell? ⟨bq i, oq i + t * 7 + y, none⟩ = some u) := fun L W hJW t h y u hu => by
          subst hp
          exact (HD.out L W hJW).qc i hip t h y u hu
        have HLS : Hid (∀ t, t < p.length → ∃ la ln lc, lv i t = .slice la ln lc) := fun t h => by
          subst hp
          obtain ⟨_, _, ⟨la, lc, e, _⟩, _⟩ := (hdi.ls i hip t h).at
          exact ⟨la, _, lc, e⟩
        have hpl : p.length ≤ 9223372036854775807 := by omega
        obtain ⟨b0, b1⟩ := HBC.out wr HXi.out
        clear hdi hca hpa e1 e2 e3 hp hqa HN HCS HPS HD
        obtain ⟨cb, hcb⟩ : ∃ cb, cb = c.combs[i] := ⟨_, rfl⟩
        rw [← hcb] at q1 HAI
        clear hcb
        by_cases hcc : cb = 1 ∨ cb = 2
        · have HAE : Hid (asksI c i = keysP p) := by rw [Hid, HAI.out, if_pos hcc]
          clear HAI
          go_upto_region 5 with (fail)
          go_cut [29] (fun s29 wx => s29 = .bool false ∧ wx = wr)
          case first =>
            rcases hcc with rfl | rfl
            · go_wp2_with fail
              go_meet
              exact ⟨rfl, rfl⟩
            · go_wp2_with fail
              go_meet
              exact ⟨rfl, rfl⟩
          case rest =>
          obtain ⟨rfl, rfl⟩ := hcut
          clear hcc q1
          have HJS : Hid (J (l ++ (List.range i).flatMap (asksI c) ++ keysP (p.take 0)) wc) := by rw [Hid]; simpa [keysP] using HJi.out
          have HJE : Hid (∀ W, J (l ++ (List.range i).flatMap (asksI c) ++ keysP (p.take p.length)) W → J (l ++ (List.range (i + 1)).flatMap (asksI c)) W) := fun W h => by
            rw [List.take_length, List.append_assoc] at h
            rw [HRF.out, HAE.out]
            exact h
          clear HRF HAE
          generalize l ++ (List.range i).flatMap (asksI c) = L0 at *
          go_wp2
          clear b0 b1 q2
          go_loopw [36] (fun a36 wq => ∃ t : Nat, t ≤ p.length ∧ a36 = .int .i64 (t : Int) ∧ Hid (J (L0 ++ keysP (p.take t)) wq) ∧ Hid (wq.heap[w.heap.size]? = some (.cells #[.slice (some ⟨bp, op, none⟩) c.parts.length pc, .slice (some ⟨bc, oc, none⟩) c.combs.length cc] 45 (0, 0)))) (fun a36 _ => p.length + 1 - (intOf a36).toNat)
          case atStart => exact ⟨0, Nat.zero_le _, rfl, HJS, HXi⟩
          case round =>
            obtain ⟨t, ht, rfl, HJt, HXt⟩ := hrel
            clear HJS HXi HJi
            by_cases htl : t < p.length
            · obtain ⟨rfl, _⟩ := HQA.out (by omega)
              have hcell := HQD.out _ _ HJt.out t htl
              have hnm := HPN.out t htl
              have HKP := hid_mk (keysP_succ htl)
              obtain ⟨s, hs⟩ : ∃ s, s = p[t].1 := ⟨_, rfl⟩
              rw [← hs] at hcell hnm HKP
              obtain ⟨la, ln, lc, hlv⟩ := HLS.out t htl
              rw [hlv] at hcell
              have y0 := hcell 0 _ rfl
              have y1 := hcell 1 _ rfl
              have y2 := hcell 2 _ rfl
              have y3 := hcell 3 _ rfl
              have y4 := hcell 4 _ rfl
              have y5 := hcell 5 _ rfl
              have y6 := hcell 6 _ rfl
              rw [Nat.add_zero] at y0
              have hkd := keyed_any s (.slice la ln lc)
              unfold s7 at hkd
              obtain ⟨w1, hw1⟩ : ∃ w1, w1 = wr.alloc (.cells #[.int .i64 s.k, .string s.nm, .int .i64 s.op, .string s.v, .int .i64 s.a, .int .i64 s.b, .slice la ln lc] 55) := ⟨_, rfl⟩
              have hB1 : Below wr.heap.size wr w1 := by rw [hw1]; exact (Below.refl _ _).alloc (Nat.le_refl _) _
              have hS1 : w1.heap[wr.heap.size]? = some (.cells #[.int .i64 s.k, .string s.nm, .int .i64 s.op, .string s.v, .int .i64 s.a, .int .i64 s.b, .slice la ln lc] 55 (0, 0)) := by rw [hw1]; exact heap_alloc_last wr _
              have HXl : Hid (w.heap.size < wr.heap.size) := (Array.getElem?_eq_some_iff.1 HXt.out).1
              have hk1 := hkd w1
              have HJ1 := hid_mk (HJ.out _ _ _ HJt.out hB1)
              have HX1 : Hid (w1.heap[w.heap.size]? = some (.cells #[.slice (some ⟨bp, op, none⟩) c.parts.length pc, .slice (some ⟨bc, oc, none⟩) c.combs.length cc] 45 (0, 0))) := (hB1.block _ HXl.out).trans HXt.out
              have HW1 := hid_mk hw1
              have HS1 := hid_mk hS1
              clear hcell hkd hs hlv hw1 hB1 hS1
              go_wp2_with (go_at_call 79; fail)
              rw [← HW1.out]
              refine hk1.mono ?_
              rintro e w2 ⟨rfl, hB2⟩
              have HJ2 := hid_mk (HJ.out _ _ _ HJ1.out hB2)
              have hS2 := (hB2.block _ (Array.getElem?_eq_some_iff.1 HS1.out).1).trans HS1.out
              have HX2 : Hid (w2.heap[w.heap.size]? = some (.cells #[.slice (some ⟨bp, op, none⟩) c.parts.length pc, .slice (some ⟨bc, oc, none⟩) c.combs.length cc] 45 (0, 0))) := (hB2.block _ (Array.getElem?_eq_some_iff.1 HX1.out).1).trans HX1.out
              have x0 : w2.cell? ⟨wr.heap.size, 0, none⟩ = some (.int .i64 s.k) := cellAt hS2 0
              have x1 : w2.cell? ⟨wr.heap.size, 1, none⟩ = some (.string s.nm) := cellAt hS2 1
              clear hk1 hB2 hS2 HJ1 HS1 HX1 HW1 y0 y1 y2 y3 y4 y5 y6 HJt
              cases hkb : keyedB s with
              | false =>
                rw [hkb] at HKP
                have HJZ : Hid (J (L0 ++ keysP (p.take (t + 1))) w2) := by rw [Hid, HKP.out]; simpa using HJ2.out
                clear HKP hkb x0 x1 HT HJ HQD HPN HJ2
                go_wp2
                exact ⟨⟨t + 1, htl, by go_num, HJZ, HX2⟩, by simp only [intOf]; omega⟩
              | true =>
                rw [hkb] at HKP
                have hky := key_any s.k s.nm hnm w2
                have htell := HT.out _ w2 (keyS s) (keyAt_lt (by decide) _ _) HJ2.out
                unfold keyS at htell
                clear hkb HJ2
                go_wp2_with (go_at_call 21; fail)
                refine hky.mono ?_
                rintro e w3 ⟨rfl, rfl⟩
                clear hky
                go_wp2_with (go_at_call 42; fail)
                refine htell.mono ?_
                rintro e w4 ⟨rfl, hJ4, hX4⟩
                have HJZ : Hid (J (L0 ++ keysP (p.take (t + 1))) w4) := by
                  rw [Hid, HKP.out, ← List.append_assoc]
                  exact hJ4
                have HX4 : Hid (w4.heap[w.heap.size]? = some (.cells #[.slice (some ⟨bp, op, none⟩) c.parts.length pc, .slice (some ⟨bc, oc, none⟩) c.combs.length cc] 45 (0, 0))) := (hX4.block _ (Array.getElem?_eq_some_iff.1 HX2.out).1 HNE.out.symm).trans HX2.out
                clear htell hJ4 hX4 x0 x1 HT HJ HQD HPN HKP HX2
                go_wp2
                exact ⟨⟨t + 1, htl, by go_num, HJZ, HX4⟩, by simp only [intOf]; omega⟩
            · obtain rfl : t = p.length := by omega
              have HJZ := hid_mk (HJE.out _ HJt.out)
              clear HT HJ HQD HPN HJE HQA HJt
              go_wp2
              exact ⟨⟨i + 1, hil, by go_num, HJZ, HXt⟩, by simp only [intOf]; omega⟩
        · have HAE : Hid (asksI c i = []) := by rw [Hid, HAI.out, if_neg hcc]
          have n1 : (cb != 1) = true := bne_iff_ne.2 fun h => hcc (.inl h)
          have n2 : (cb != 2) = true := bne_iff_ne.2 fun h => hcc (.inr h)
          clear hcc HAI HQD HPN HQA q2 b0 b1 HT HJ
          go_wp2
          exact ⟨⟨i + 1, hil, by go_num, by rw [Hid, HRF.out, HAE.out, List.append_nil]; exact HJi.out, HXi⟩, by simp only [intOf]; omega⟩
      · obtain rfl : i = c.combs.length := by omega
        clear HCS HPS HD HT HN HJ
        go_wp2
        exact bodyPost_end (v := .tuple #[]) (by simp [results, Tryz.results41, go_sem]) rfl ⟨rfl, by rw [HL.out]; exact HJi.out⟩
  · have HL : Hid (asksL c = []) := by rw [Hid]; unfold asksL; rw [if_neg hl]
    have hne : ((c.combs.length : Int) != (c.parts.length : Int) - 1) = true := bne_iff_ne.2 (by omega)
    have hJE := HJ0.out
    clear hl hd h HD HT HN
    go_enter Tryz.func41, Tryz.ntmps41
    go_wp2
    rw [← HW0.out]
    exact bodyPost_ret (v := .tuple #[]) (by simp [results, Tryz.results41, go_sem]) rfl ⟨rfl, by rw [HL.out, List.append_nil]; exact hJE⟩
end Go.Proofs.YtdiljkmlneeboaaGreat.B
namespace Go.Proofs.YtdiljkmlneeboaaGreat.B
open Go.RowKit
set_option maxRecDepth 100000

set_option maxHeartbeats 4000000 in
theorem lives_any (w : World) : Calls Tryz.prog 6 #[] w fun e w' => e = .returned (.bool true) ∧ Below w.heap.size w w' := by
  obtain ⟨W0, hW0⟩ : ∃ W0, W0 = ((((((((w.alloc (.cells #[.int .i64 1, .string ⟨#[97]⟩, .int .i64 0, .string ⟨#[]⟩, .int .i64 0, .int .i64 0, .slice none 0 0] 55)).alloc (.cells #[.int .i64 1, .string ⟨#[98]⟩, .int .i64 0, .string ⟨#[]⟩, .int .i64 0, .int .i64 0, .slice none 0 0] 55)).alloc (.cells #[.int .i64 1, .string ⟨#[97]⟩, .int .i64 0, .string ⟨#[]⟩, .int .i64 0, .int .i64 0, .slice none 0 0] 55)).alloc (.cells #[.int .i64 1, .string ⟨#[98]⟩, .int .i64 0, .string ⟨#[]⟩, .int .i64 0, .int .i64 0, .slice none 0 0] 55)).alloc (.cells #[.int .i64 1, .string ⟨#[98]⟩, .int .i64 0, .string ⟨#[]⟩, .int .i64 0, .int .i64 0, .slice none 0 0] 55)).alloc (.cells #[.slice (some ⟨w.heap.size + 1 + 1, 0, none⟩) 1 1, .slice (some ⟨w.heap.size + 1 + 1 + 1, 0, none⟩) 1 1, .slice (some ⟨w.heap.size + 1 + 1 + 1 + 1, 0, none⟩) 1 1] 56)).alloc (.cells #[.int .i64 2, .int .i64 3] 3)).alloc (.cells #[.slice (some ⟨w.heap.size + 1 + 1 + 1 + 1 + 1, 0, none⟩) 3 3, .slice (some ⟨w.heap.size + 1 + 1 + 1 + 1 + 1 + 1, 0, none⟩) 2 2] 45)) := ⟨_, rfl⟩
  have hB0 : Below w.heap.size w W0 := by
    rw [hW0]
    exact ((((((((Below.refl _ _).alloc (Nat.le_refl _) _).alloc (by simp) _).alloc (by simp; omega) _).alloc (by simp; omega) _).alloc (by simp; omega) _).alloc (by simp; omega) _).alloc (by simp; omega) _).alloc (by simp; omega) _
  have hP : W0.heap[w.heap.size + 1 + 1 + 1 + 1 + 1]? = some (.cells #[.slice (some ⟨w.heap.size + 1 + 1, 0, none⟩) 1 1, .slice (some ⟨w.heap.size + 1 + 1 + 1, 0, none⟩) 1 1, .slice (some ⟨w.heap.size + 1 + 1 + 1 + 1, 0, none⟩) 1 1] 56 (0, 0)) := by rw [hW0, Below.heap_alloc _ _ _ (by simp; try omega), Below.heap_alloc _ _ _ (by simp; try omega)]; exact alloc_at _ _ _ (by simp)
  have hC : W0.heap[w.heap.size + 1 + 1 + 1 + 1 + 1 + 1]? = some (.cells #[.int .i64 2, .int .i64 3] 3 (0, 0)) := by rw [hW0, Below.heap_alloc _ _ _ (by simp; try omega)]; exact alloc_at _ _ _ (by simp)
  have hA : W0.heap[w.heap.size + 1 + 1]? = some (.cells #[.int .i64 1, .string ⟨#[97]⟩, .int .i64 0, .string ⟨#[]⟩, .int .i64 0, .int .i64 0, .slice none 0 0] 55 (0, 0)) := by rw [hW0, Below.heap_alloc _ _ _ (by simp; try omega), Below.heap_alloc _ _ _ (by simp; try omega), Below.heap_alloc _ _ _ (by simp; try omega), Below.heap_alloc _ _ _ (by simp; try omega), Below.heap_alloc _ _ _ (by simp; try omega)]; exact alloc_at _ _ _ (by simp)
  have hb : W0.heap[w.heap.size + 1]? = some (.cells #[.int .i64 1, .string ⟨#[98]⟩, .int .i64 0, .string ⟨#[]⟩, .int .i64 0, .int .i64 0, .slice none 0 0] 55 (0, 0)) := by rw [hW0, Below.heap_alloc _ _ _ (by simp; try omega), Below.heap_alloc _ _ _ (by simp; try omega), Below.heap_alloc _ _ _ (by simp; try omega), Below.heap_alloc _ _ _ (by simp; try omega), Below.heap_alloc _ _ _ (by simp; try omega), Below.heap_alloc _ _ _ (by simp; try omega)]; exact alloc_at _ _ _ (by simp)
  have hc : W0.heap[w.heap.size + 1 + 1 + 1 + 1 + 1 + 1 + 1]? = some (.cells #[.slice (some ⟨w.heap.size + 1 + 1 + 1 + 1 + 1, 0, none⟩) 3 3, .slice (some ⟨w.heap.size + 1 + 1 + 1 + 1 + 1 + 1, 0, none⟩) 2 2] 45 (0, 0)) := by rw [hW0]; exact alloc_at _ _ _ (by simp)
  have hn := needs_1 hP hC hA
  have HSK : Hid (∀ W, Below W0.heap.size W0 W → Calls Tryz.prog 16 #[.agg #[.int .u64 0, .int .u64 0, .int .u64 0, .int .u64 0], .agg #[.slice (some ⟨w.heap.size + 1 + 1 + 1 + 1 + 1, 0, none⟩) 3 3, .slice (some ⟨w.heap.size + 1 + 1 + 1 + 1 + 1 + 1, 0, none⟩) 2 2]] W fun e w' => e = .returned (.bool true) ∧ Below W.heap.size W w') := fun W hW =>
    skip_1 ((hW.block _ (Array.getElem?_eq_some_iff.1 hP).1).trans hP) ((hW.block _ (Array.getElem?_eq_some_iff.1 hC).1).trans hC) ((hW.block _ (Array.getElem?_eq_some_iff.1 hA).1).trans hA)
  have HBC : Hid (∀ W, Below W0.heap.size W0 W → SAt W (w.heap.size + 1) ⟨#[98]⟩) := fun W hW => (hW.block _ (Array.getElem?_eq_some_iff.1 hb).1).trans hb
  have HCC : Hid (∀ W, Below W0.heap.size W0 W → W.cell? ⟨w.heap.size + 1 + 1 + 1 + 1 + 1 + 1 + 1, 0, none⟩ = some (.slice (some ⟨w.heap.size + 1 + 1 + 1 + 1 + 1, 0, none⟩) 3 3) ∧ W.cell? ⟨w.heap.size + 1 + 1 + 1 + 1 + 1 + 1 + 1, 1, none⟩ = some (.slice (some ⟨w.heap.size + 1 + 1 + 1 + 1 + 1 + 1, 0, none⟩) 2 2)) := fun W hW => by
    have h := (hW.block _ (Array.getElem?_eq_some_iff.1 hc).1).trans hc
    exact ⟨cellAt h 0, cellAt h 1⟩
  have HW0 := hid_mk hW0
  have HB0 := hid_mk hB0
  obtain ⟨q0, q1⟩ := HCC.out W0 (Below.refl _ _)
  clear hW0 hB0 hP hC hA hb hc
  go_enter Tryz.func6, Tryz.ntmps6
  go_upto_region 3 with (fail)
  rw [← HW0.out]
  clear HW0
  go_wp2_with (go_at_call 20; fail)
  refine hn.mono ?_
  rintro e w1 ⟨g, cap, rfl, hg, hgl, hB1'⟩
  have hB1 : Below W0.heap.size W0 w1 := hB1'
  have hk1 := key_a w1
  clear hn q0 q1 hB1'
  go_wp2_with (go_at_call 21; fail)
  refine hk1.mono ?_
  rintro e w2 ⟨rfl, rfl⟩
  clear hk1
  obtain ⟨w3, hw3⟩ : ∃ w3, w3 = w2.alloc (.cells #[.int .u32 (kA : Nat)] 39) := ⟨_, rfl⟩
  have hB3 : Below w2.heap.size w2 w3 := by rw [hw3]; exact (Below.refl _ _).alloc (Nat.le_refl _) _
  have hk3 : w3.cell? ⟨w2.heap.size, 0, none⟩ = some (.int .u32 (kA : Nat)) := by rw [hw3]; exact cellAt (heap_alloc_last w2 _) 0
  have hs3 := same_1 (c := cap) (d := 1) ((hB3.cell (p := ⟨g, 0, none⟩) hgl).trans hg) hk3
  have HB3 := hid_mk (hB1.trans (hB3.mono hB1.size))
  have HW3 := hid_mk hw3
  clear hw3 hB3 hk3 hg hgl hB1
  go_wp2_with (go_at_call 8; fail)
  rw [← HW3.out]
  refine hs3.mono ?_
  rintro e w4 ⟨rfl, hB4⟩
  have HB4 := hid_mk (HB3.out.trans (hB4.mono HB3.out.size))
  clear hs3 hB4 HB3 HW3
  obtain ⟨q0, q1⟩ := HCC.out w4 HB4.out
  have hsk := HSK.out w4 HB4.out
  go_wp2_with (go_at_call 16; fail)
  refine hsk.mono ?_
  rintro e w5 ⟨rfl, hB5⟩
  have HB5 := hid_mk (HB4.out.trans (hB5.mono HB4.out.size))
  clear hsk hB5 HB4 q0 q1 HCC HSK
  obtain ⟨s0, s1, s2, s3, s4, s5, s6⟩ := (HBC.out w5 HB5.out).cells
  obtain ⟨w6, hw6⟩ : ∃ w6, w6 = (w5.alloc (.cells #[.int .i64 1, .string ⟨#[98]⟩, .int .i64 0, .string ⟨#[]⟩, .int .i64 0, .int .i64 0, .slice none 0 0] 55)).alloc (.cells #[.slice (some ⟨w5.heap.size, 0, none⟩) 1 1] 56) := ⟨_, rfl⟩
  have hB6 : Below w5.heap.size w5 w6 := by rw [hw6]; exact ((Below.refl _ _).alloc (Nat.le_refl _) _).alloc (by simp) _
  have HB6 := hid_mk (HB5.out.trans (hB6.mono HB5.out.size))
  have HW6 := hid_mk hw6
  have hs6 := skip_0 (w := w6) (P := w5.heap.size + 1)
  clear hw6 hB6 HB5 HBC
  go_wp2_with (go_at_call 16; fail)
  rw [← HW6.out]
  refine hs6.mono ?_
  rintro e w7 ⟨rfl, hB7⟩
  have HB7 := hid_mk (HB6.out.trans (hB7.mono HB6.out.size))
  have hk7 := key_a w7
  clear hs6 hB7 HB6 HW6 s0 s1 s2 s3 s4 s5 s6
  go_wp2_with (go_at_call 21; fail)
  refine hk7.mono ?_
  rintro e w8 ⟨rfl, rfl⟩
  have hk8 := rkey_a w8
  clear hk7
  go_wp2_with (go_at_call 22; fail)
  refine hk8.mono ?_
  rintro e w9 ⟨rfl, hB9⟩
  have HB9 := hid_mk (HB7.out.trans (hB9.mono HB7.out.size))
  clear hk8 hB9 HB7
  generalize ((kA : Nat) : Int) = kk at *
  go_wp2
  go_ret
  exact ⟨rfl, HB0.out.trans (HB9.out.mono HB0.out.size)⟩
end Go.Proofs.YtdiljkmlneeboaaGreat.B
