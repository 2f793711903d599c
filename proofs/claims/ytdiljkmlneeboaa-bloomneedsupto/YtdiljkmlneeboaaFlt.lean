/- Filters: one bit more, a key more; in plain numbers. -/
import Derived.Test.YtdiljkmlneeboaaRows
import Derived.WalkKit
import Derived.WalkLawsBesides
import Derived.IntWalk
import Derived.Deep.MidRow
import Derived.BigQuiet
import Derived.Deep.QuietTactic
import Derived.Below
import Derived.Deep.WholeRow
import Derived.Deep.DeepCutAuto
import Derived.Laws.Bits64b
namespace Go.Proofs.Ytdiljkmlneeboaa
open Go.RowKit
set_option maxRecDepth 100000

/-- A fact that the walk does not look into. -/
def Hid (p : Prop) : Prop := p
theorem hid_mk {p : Prop} (h : p) : Hid p := h
theorem Hid.out {p : Prop} (h : Hid p) : p := h

/-- A filter: its four items. -/
structure Flt where
  a : Nat
  b : Nat
  c : Nat
  d : Nat
def Flt.ok (f : Flt) : Prop := f.a < 18446744073709551616 ∧ f.b < 18446744073709551616 ∧ f.c < 18446744073709551616 ∧ f.d < 18446744073709551616
/-- As a value. -/
def Flt.v (f : Flt) : Value := .agg #[.int .u64 (f.a : Int), .int .u64 (f.b : Int), .int .u64 (f.c : Int), .int .u64 (f.d : Int)]
/-- With a bit more. -/
def Flt.bit (f : Flt) (n : Nat) : Flt :=
  if n / 64 = 0 then ⟨f.a ||| 2 ^ (n % 64), f.b, f.c, f.d⟩ else if n / 64 = 1 then ⟨f.a, f.b ||| 2 ^ (n % 64), f.c, f.d⟩
  else if n / 64 = 2 then ⟨f.a, f.b, f.c ||| 2 ^ (n % 64), f.d⟩ else ⟨f.a, f.b, f.c, f.d ||| 2 ^ (n % 64)⟩
/-- With a key more. -/
def Flt.add (f : Flt) (k : Nat) : Flt := (f.bit (k % 256)).bit (k / 256 % 256)
theorem pow_lt (j : Nat) (hj : j < 64) : 2 ^ j < 18446744073709551616 := by
  have : 2 ^ j < 2 ^ 64 := Nat.pow_lt_pow_right (by decide) hj
  simpa using this
theorem or_lt {x j : Nat} (hx : x < 18446744073709551616) (hj : j < 64) : x ||| 2 ^ j < 18446744073709551616 := by
  have h : x ||| 2 ^ j < 2 ^ 64 := Nat.or_lt_two_pow (by simpa using hx) (by simpa using pow_lt j hj)
  simpa using h
theorem ok_bit {f : Flt} (h : f.ok) (n : Nat) : (f.bit n).ok := by
  obtain ⟨h1, h2, h3, h4⟩ := h
  have hj : n % 64 < 64 := Nat.mod_lt _ (by decide)
  unfold Flt.bit
  split
  · exact ⟨or_lt h1 hj, h2, h3, h4⟩
  · split
    · exact ⟨h1, or_lt h2 hj, h3, h4⟩
    · split
      · exact ⟨h1, h2, or_lt h3 hj, h4⟩
      · exact ⟨h1, h2, h3, or_lt h4 hj⟩
theorem ok_add {f : Flt} (h : f.ok) (k : Nat) : (f.add k).ok := ok_bit (ok_bit h _) _
theorem orB {x j : Nat} (hx : x < 18446744073709551616) (hj : j < 64) : bits .or .u64 (x : Int) (IntKind.u64.wrap (2 ^ j)) = ((x ||| 2 ^ j : Nat) : Int) := by
  have h := pow_lt j hj
  have e : IntKind.u64.wrap (2 ^ j) = ((2 ^ j : Nat) : Int) := by
    rw [IntKind.wrap_u64]
    have e2 : ((2 ^ j : Nat) : Int) = 2 ^ j := by simp
    rw [← e2]
    exact Int.emod_eq_of_lt (Int.natCast_nonneg _) (by omega)
  rw [e, bits_or_u64_nat _ _ hx h]

theorem four (n : Nat) (h : n < 256) : n / 64 = 0 ∨ n / 64 = 1 ∨ n / 64 = 2 ∨ n / 64 = 3 := by omega

set_option maxHeartbeats 400000 in
theorem lit_0 (f : Flt) (hf : f.ok) (k : Nat) (hk : k < 4294967296) (hn : k % 256 / 64 = 0) (w : World) :
    Calls Try.prog 20 #[f.v, .int .u32 (k : Int)] w fun e w' => e = .returned (f.bit (k % 256)).v ∧ Below w.heap.size w w' := by
  have hj : k % 64 < 64 := Nat.mod_lt _ (by decide)
  have e0 : (k % 256) % 64 = k % 64 := by omega
  have e1 : f.bit (k % 256) = ⟨f.a ||| 2 ^ (k % 64), f.b, f.c, f.d⟩ := by simp [Flt.bit, hn, e0]
  rw [e1]
  have hq : (k : Int) % 256 / 64 = (0 : Int) := by omega
  have HO : Hid (bits .or .u64 (f.a : Int) (IntKind.u64.wrap (2 ^ (k % 64))) = ((f.a ||| 2 ^ (k % 64) : Nat) : Int)) := orB hf.1 hj
  have hB : ∀ o1 o2, Below w.heap.size w ((w.alloc o1).alloc o2) := fun o1 o2 => ((Below.refl _ _).alloc (Nat.le_refl _) _).alloc (by simp) _
  unfold Flt.v
  clear e1 hn hf hj
  go_enter Try.func20, Try.ntmps20
  go_wp2
  rw [HO.out]
  refine bodyPost_ret (v := Flt.v ⟨f.a ||| 2 ^ (k % 64), f.b, f.c, f.d⟩) (by simp [results, Try.results20, go_sem, Flt.v]) rfl ⟨rfl, hB _ _⟩
set_option maxHeartbeats 400000 in
theorem lit_1 (f : Flt) (hf : f.ok) (k : Nat) (hk : k < 4294967296) (hn : k % 256 / 64 = 1) (w : World) :
    Calls Try.prog 20 #[f.v, .int .u32 (k : Int)] w fun e w' => e = .returned (f.bit (k % 256)).v ∧ Below w.heap.size w w' := by
  have hj : k % 64 < 64 := Nat.mod_lt _ (by decide)
  have e0 : (k % 256) % 64 = k % 64 := by omega
  have e1 : f.bit (k % 256) = ⟨f.a, f.b ||| 2 ^ (k % 64), f.c, f.d⟩ := by simp [Flt.bit, hn, e0]
  rw [e1]
  have hq : (k : Int) % 256 / 64 = (1 : Int) := by omega
  have HO : Hid (bits .or .u64 (f.b : Int) (IntKind.u64.wrap (2 ^ (k % 64))) = ((f.b ||| 2 ^ (k % 64) : Nat) : Int)) := orB hf.2.1 hj
  have hB : ∀ o1 o2, Below w.heap.size w ((w.alloc o1).alloc o2) := fun o1 o2 => ((Below.refl _ _).alloc (Nat.le_refl _) _).alloc (by simp) _
  unfold Flt.v
  clear e1 hn hf hj
  go_enter Try.func20, Try.ntmps20
  go_wp2
  rw [HO.out]
  refine bodyPost_ret (v := Flt.v ⟨f.a, f.b ||| 2 ^ (k % 64), f.c, f.d⟩) (by simp [results, Try.results20, go_sem, Flt.v]) rfl ⟨rfl, hB _ _⟩
set_option maxHeartbeats 400000 in
theorem lit_2 (f : Flt) (hf : f.ok) (k : Nat) (hk : k < 4294967296) (hn : k % 256 / 64 = 2) (w : World) :
    Calls Try.prog 20 #[f.v, .int .u32 (k : Int)] w fun e w' => e = .returned (f.bit (k % 256)).v ∧ Below w.heap.size w w' := by
  have hj : k % 64 < 64 := Nat.mod_lt _ (by decide)
  have e0 : (k % 256) % 64 = k % 64 := by omega
  have e1 : f.bit (k % 256) = ⟨f.a, f.b, f.c ||| 2 ^ (k % 64), f.d⟩ := by simp [Flt.bit, hn, e0]
  rw [e1]
  have hq : (k : Int) % 256 / 64 = (2 : Int) := by omega
  have HO : Hid (bits .or .u64 (f.c : Int) (IntKind.u64.wrap (2 ^ (k % 64))) = ((f.c ||| 2 ^ (k % 64) : Nat) : Int)) := orB hf.2.2.1 hj
  have hB : ∀ o1 o2, Below w.heap.size w ((w.alloc o1).alloc o2) := fun o1 o2 => ((Below.refl _ _).alloc (Nat.le_refl _) _).alloc (by simp) _
  unfold Flt.v
  clear e1 hn hf hj
  go_enter Try.func20, Try.ntmps20
  go_wp2
  rw [HO.out]
  refine bodyPost_ret (v := Flt.v ⟨f.a, f.b, f.c ||| 2 ^ (k % 64), f.d⟩) (by simp [results, Try.results20, go_sem, Flt.v]) rfl ⟨rfl, hB _ _⟩
set_option maxHeartbeats 400000 in
theorem lit_3 (f : Flt) (hf : f.ok) (k : Nat) (hk : k < 4294967296) (hn : k % 256 / 64 = 3) (w : World) :
    Calls Try.prog 20 #[f.v, .int .u32 (k : Int)] w fun e w' => e = .returned (f.bit (k % 256)).v ∧ Below w.heap.size w w' := by
  have hj : k % 64 < 64 := Nat.mod_lt _ (by decide)
  have e0 : (k % 256) % 64 = k % 64 := by omega
  have e1 : f.bit (k % 256) = ⟨f.a, f.b, f.c, f.d ||| 2 ^ (k % 64)⟩ := by simp [Flt.bit, hn, e0]
  rw [e1]
  have hq : (k : Int) % 256 / 64 = (3 : Int) := by omega
  have HO : Hid (bits .or .u64 (f.d : Int) (IntKind.u64.wrap (2 ^ (k % 64))) = ((f.d ||| 2 ^ (k % 64) : Nat) : Int)) := orB hf.2.2.2 hj
  have hB : ∀ o1 o2, Below w.heap.size w ((w.alloc o1).alloc o2) := fun o1 o2 => ((Below.refl _ _).alloc (Nat.le_refl _) _).alloc (by simp) _
  unfold Flt.v
  clear e1 hn hf hj
  go_enter Try.func20, Try.ntmps20
  go_wp2
  rw [HO.out]
  refine bodyPost_ret (v := Flt.v ⟨f.a, f.b, f.c, f.d ||| 2 ^ (k % 64)⟩) (by simp [results, Try.results20, go_sem, Flt.v]) rfl ⟨rfl, hB _ _⟩
set_option maxHeartbeats 400000 in
theorem rbit_0 (f : Flt) (hf : f.ok) (k : Nat) (hk : k < 256) (hn : k / 64 = 0) (w : World) :
    Calls Try.prog 21 #[f.v, .int .u32 (k : Int)] w fun e w' => e = .returned (f.bit (k)).v ∧ Below w.heap.size w w' := by
  have hj : k % 64 < 64 := Nat.mod_lt _ (by decide)
  have e1 : f.bit (k) = ⟨f.a ||| 2 ^ (k % 64), f.b, f.c, f.d⟩ := by simp [Flt.bit, hn]
  rw [e1]
  have hq : (k : Int) / 64 = (0 : Int) := by omega
  have HO : Hid (bits .or .u64 (f.a : Int) (IntKind.u64.wrap (2 ^ (k % 64))) = ((f.a ||| 2 ^ (k % 64) : Nat) : Int)) := orB hf.1 hj
  have hB : ∀ o1 o2, Below w.heap.size w ((w.alloc o1).alloc o2) := fun o1 o2 => ((Below.refl _ _).alloc (Nat.le_refl _) _).alloc (by simp) _
  unfold Flt.v
  clear e1 hn hf hj
  go_enter Try.func21, Try.ntmps21
  go_wp2
  rw [HO.out]
  refine bodyPost_ret (v := Flt.v ⟨f.a ||| 2 ^ (k % 64), f.b, f.c, f.d⟩) (by simp [results, Try.results21, go_sem, Flt.v]) rfl ⟨rfl, hB _ _⟩
set_option maxHeartbeats 400000 in
theorem rbit_1 (f : Flt) (hf : f.ok) (k : Nat) (hk : k < 256) (hn : k / 64 = 1) (w : World) :
    Calls Try.prog 21 #[f.v, .int .u32 (k : Int)] w fun e w' => e = .returned (f.bit (k)).v ∧ Below w.heap.size w w' := by
  have hj : k % 64 < 64 := Nat.mod_lt _ (by decide)
  have e1 : f.bit (k) = ⟨f.a, f.b ||| 2 ^ (k % 64), f.c, f.d⟩ := by simp [Flt.bit, hn]
  rw [e1]
  have hq : (k : Int) / 64 = (1 : Int) := by omega
  have HO : Hid (bits .or .u64 (f.b : Int) (IntKind.u64.wrap (2 ^ (k % 64))) = ((f.b ||| 2 ^ (k % 64) : Nat) : Int)) := orB hf.2.1 hj
  have hB : ∀ o1 o2, Below w.heap.size w ((w.alloc o1).alloc o2) := fun o1 o2 => ((Below.refl _ _).alloc (Nat.le_refl _) _).alloc (by simp) _
  unfold Flt.v
  clear e1 hn hf hj
  go_enter Try.func21, Try.ntmps21
  go_wp2
  rw [HO.out]
  refine bodyPost_ret (v := Flt.v ⟨f.a, f.b ||| 2 ^ (k % 64), f.c, f.d⟩) (by simp [results, Try.results21, go_sem, Flt.v]) rfl ⟨rfl, hB _ _⟩
set_option maxHeartbeats 400000 in
theorem rbit_2 (f : Flt) (hf : f.ok) (k : Nat) (hk : k < 256) (hn : k / 64 = 2) (w : World) :
    Calls Try.prog 21 #[f.v, .int .u32 (k : Int)] w fun e w' => e = .returned (f.bit (k)).v ∧ Below w.heap.size w w' := by
  have hj : k % 64 < 64 := Nat.mod_lt _ (by decide)
  have e1 : f.bit (k) = ⟨f.a, f.b, f.c ||| 2 ^ (k % 64), f.d⟩ := by simp [Flt.bit, hn]
  rw [e1]
  have hq : (k : Int) / 64 = (2 : Int) := by omega
  have HO : Hid (bits .or .u64 (f.c : Int) (IntKind.u64.wrap (2 ^ (k % 64))) = ((f.c ||| 2 ^ (k % 64) : Nat) : Int)) := orB hf.2.2.1 hj
  have hB : ∀ o1 o2, Below w.heap.size w ((w.alloc o1).alloc o2) := fun o1 o2 => ((Below.refl _ _).alloc (Nat.le_refl _) _).alloc (by simp) _
  unfold Flt.v
  clear e1 hn hf hj
  go_enter Try.func21, Try.ntmps21
  go_wp2
  rw [HO.out]
  refine bodyPost_ret (v := Flt.v ⟨f.a, f.b, f.c ||| 2 ^ (k % 64), f.d⟩) (by simp [results, Try.results21, go_sem, Flt.v]) rfl ⟨rfl, hB _ _⟩
set_option maxHeartbeats 400000 in
theorem rbit_3 (f : Flt) (hf : f.ok) (k : Nat) (hk : k < 256) (hn : k / 64 = 3) (w : World) :
    Calls Try.prog 21 #[f.v, .int .u32 (k : Int)] w fun e w' => e = .returned (f.bit (k)).v ∧ Below w.heap.size w w' := by
  have hj : k % 64 < 64 := Nat.mod_lt _ (by decide)
  have e1 : f.bit (k) = ⟨f.a, f.b, f.c, f.d ||| 2 ^ (k % 64)⟩ := by simp [Flt.bit, hn]
  rw [e1]
  have hq : (k : Int) / 64 = (3 : Int) := by omega
  have HO : Hid (bits .or .u64 (f.d : Int) (IntKind.u64.wrap (2 ^ (k % 64))) = ((f.d ||| 2 ^ (k % 64) : Nat) : Int)) := orB hf.2.2.2 hj
  have hB : ∀ o1 o2, Below w.heap.size w ((w.alloc o1).alloc o2) := fun o1 o2 => ((Below.refl _ _).alloc (Nat.le_refl _) _).alloc (by simp) _
  unfold Flt.v
  clear e1 hn hf hj
  go_enter Try.func21, Try.ntmps21
  go_wp2
  rw [HO.out]
  refine bodyPost_ret (v := Flt.v ⟨f.a, f.b, f.c, f.d ||| 2 ^ (k % 64)⟩) (by simp [results, Try.results21, go_sem, Flt.v]) rfl ⟨rfl, hB _ _⟩
theorem lit_any (f : Flt) (hf : f.ok) (k : Nat) (hk : k < 4294967296) (w : World) :
    Calls Try.prog 20 #[f.v, .int .u32 (k : Int)] w fun e w' => e = .returned (f.bit (k % 256)).v ∧ Below w.heap.size w w' := by
  rcases four (k % 256) (Nat.mod_lt _ (by decide)) with h | h | h | h
  · exact lit_0 f hf k hk h w
  · exact lit_1 f hf k hk h w
  · exact lit_2 f hf k hk h w
  · exact lit_3 f hf k hk h w
theorem rbit_any (f : Flt) (hf : f.ok) (k : Nat) (hk : k < 256) (w : World) :
    Calls Try.prog 21 #[f.v, .int .u32 (k : Int)] w fun e w' => e = .returned (f.bit k).v ∧ Below w.heap.size w w' := by
  rcases four k hk with h | h | h | h
  · exact rbit_0 f hf k hk h w
  · exact rbit_1 f hf k hk h w
  · exact rbit_2 f hf k hk h w
  · exact rbit_3 f hf k hk h w

end Go.Proofs.Ytdiljkmlneeboaa
