/- Atomic pointers: loads, stores, compare-and-swap where the cell is empty. -/
import Derived.Test.YtdgbebgjenfmbaaMBa
namespace Go.Proofs.Ytdgbebgjenfmbaa.M
open Go.RowKit
set_option maxRecDepth 100000

theorem call_load {a : Addr} {x : Option Addr} {w : World} (hc : w.cell? a = some (.pointer x)) : (callFunc 43 #[.pointer (some a)]).run Try.prog w = .ok (.value (.pointer x)) w := by
  rw [run_callFunc_extern (e := Extern.Atomic.loadT .ptr) Try.func43 (by kernel_rfl) (by kernel_rfl) (by kernel_rfl) (by kernel_rfl)]
  change (Sem.run Try.prog (do Extern.Atomic.read .ptr (← asAddr (.pointer (some a)))) w).andThen _ = _
  simp [Extern.Atomic.read, asAddr, hc, Result.andThen]
theorem call_store {a : Addr} {x : Option Addr} {u : Value} {w : World} (hc : w.cell? a = some u) (hz : w.frozen? a = false) : (callFunc 39 #[.pointer (some a), .pointer x]).run Try.prog w = .ok (.value (.tuple #[])) (w.setCell a (.pointer x)) := by
  rw [run_callFunc_extern (e := Extern.Atomic.storeT) Try.func39 (by kernel_rfl) (by kernel_rfl) (by kernel_rfl) (by kernel_rfl)]
  change (Sem.run Try.prog (do
    store (← asAddr (.pointer (some a))) (.pointer x) .atomic
    pure Extern.Atomic.none_) w).andThen _ = _
  simp [asAddr, hc, hz, run_store Try.prog w a (.pointer x) .atomic rfl, Result.andThen, Extern.Atomic.none_]
theorem call_cas {a : Addr} {x : Addr} {w : World} (hc : w.cell? a = some (.pointer none)) (hz : w.frozen? a = false) : (callFunc 44 #[.pointer (some a), .pointer none, .pointer (some x)]).run Try.prog w = .ok (.value (.bool true)) (w.setCell a (.pointer (some x))) := by
  have hsh := World.shape?_isSome_of_cell? hc
  rw [run_callFunc_extern (e := Extern.Atomic.casT .ptr) Try.func44 (by kernel_rfl) (by kernel_rfl) (by kernel_rfl) (by kernel_rfl)]
  change (Sem.run Try.prog (do
    let a' ← asAddr (.pointer (some a))
    if ← Extern.Atomic.touchesFrozen a' then unsupported (.unsafePointer "a write to bytes that a string shares")
    let eq ← match Extern.Atomic.T.ptr, ← Extern.Atomic.read .ptr a', Value.pointer none with
      | _, .int _ x, .int _ y => pure (x == y)
      | .ptr, .pointer x, .pointer y => samePointer x y
      | .int _, .pointer (some _), .int _ 0 | .int _, .int _ 0, .pointer (some _) => pure false
      | .int _, .pointer (some _), _ | .int _, _, .pointer (some _) => unsupported .addressObserved
      | _, _, _ => stuck "atomic.CompareAndSwap: old is no T"
    if eq then store a' (.pointer (some x)) .atomic
    pure (Value.bool eq)) w).andThen _ = _
  simp [Extern.Atomic.touchesFrozen, Extern.Atomic.read, viewAt, samePointer, asAddr, hsh, hc, hz, run_store Try.prog w a (.pointer (some x)) .atomic rfl, Result.andThen]

theorem to_nil (s d t : TypeId) {w : World} (hs : Try.prog.underlying s = some (.pointer t)) (hd : Try.prog.underlying d = some .unsafePointer) : (convert s d (.pointer none)).run Try.prog w = .ok (.pointer none) w := by
  simp [convert, Conv.unsafePointer, run_underlying hs, run_underlying hd, Result.andThen]
theorem from_nil (s d t : TypeId) {w : World} (hs : Try.prog.underlying s = some .unsafePointer) (hd : Try.prog.underlying d = some (.pointer t)) : (convert s d (.pointer none)).run Try.prog w = .ok (.pointer none) w := by
  simp [convert, Conv.unsafePointer, run_underlying hs, run_underlying hd, Result.andThen]
theorem from_some (s d t : TypeId) {w : World} {b : Nat} {cs : Array Value} {fr : Nat × Nat} (hs : Try.prog.underlying s = some .unsafePointer) (hd : Try.prog.underlying d = some (.pointer t)) (hb : w.heap[b]? = some (.cells cs t fr)) (hsz : (Try.prog.info? t).map (fun i => decide (i.size = cs.size)) = some true) (h0 : 0 < cs.size)
    (hl : liesAt Try.prog Try.prog.depth t (cs.size / Try.prog.cellsOf t) 0 t 1 = true) : (convert s d (.pointer (some ⟨b, 0, none⟩))).run Try.prog w = .ok (.pointer (some ⟨b, 0, none⟩)) w := by
  obtain ⟨i, hi, hz0⟩ := Option.map_eq_some_iff.1 hsz
  have hz : i.size ≠ 0 := by
    have : i.size = cs.size := by simpa using hz0
    omega
  have hsh : w.shape? b = some (t, cs.size) := by simp [World.shape?, hb]
  simp [convert, Conv.unsafePointer, Conv.seenAt, viewAt, sizeOf, typeInfo, variablesAt, run_underlying hs, run_underlying hd, hi, hz, hsh, hl, Result.andThen]
theorem box_cell {w : World} {b : Nat} {v : Value} {t : TypeId} (h : w.heap[b]? = some (.cells #[v] t (0, 0))) : w.cell? ⟨b, 0, none⟩ = some v ∧ w.frozen? ⟨b, 0, none⟩ = false := by
  constructor
  · simp [World.cell?, h]
  · simp [World.frozen?, h]

/-- The table's pointer. -/
theorem loadR_any {w : World} {b r : Nat} {cs : Array Value} (hb : w.cell? ⟨b, 0, none⟩ = some (.pointer (some ⟨r, 0, none⟩))) (hr : w.heap[r]? = some (.cells cs 71 (0, 0))) (hcs : cs.size = 1) : Calls Try.prog 40 #[.pointer (some ⟨b, 0, none⟩)] w fun e w' => e = .returned (.pointer (some ⟨r, 0, none⟩)) ∧ w' = w := by
  have h1 := call_load hb
  have h2 := from_some 61 57 71 (w := w) (b := r) (cs := cs) (fr := (0, 0)) (by kernel_rfl) (by kernel_rfl) hr (by rw [hcs]; kernel_rfl) (by omega) (by rw [hcs]; kernel_rfl)
  clear hr hcs
  go_enter Try.func40, Try.ntmps40
  go_wp2
  go_ret
  exact ⟨rfl, rfl⟩
theorem loadR_nil {w : World} {b : Nat} (hb : w.cell? ⟨b, 0, none⟩ = some (.pointer none)) : Calls Try.prog 40 #[.pointer (some ⟨b, 0, none⟩)] w fun e w' => e = .returned (.pointer none) ∧ w' = w := by
  have h1 := call_load hb
  have h2 := from_nil 61 57 71 (w := w) (by kernel_rfl) (by kernel_rfl)
  go_enter Try.func40, Try.ntmps40
  go_wp2
  go_ret
  exact ⟨rfl, rfl⟩
/-- A cell's pointer. -/
theorem loadE_any {P : Nat → Prop} {w : World} {c j : Nat} {v : Value} {o : Option En} (hb : w.cell? ⟨c, j, none⟩ = some v) (hv : CeV P w v o) : Calls Try.prog 35 #[.pointer (some ⟨c, j, none⟩)] w fun e w' => e = .returned v ∧ w' = w := by
  cases o with
  | none =>
    have hv : v = .pointer none := hv
    subst hv
    have h1 := call_load hb
    have h2 := from_nil 61 78 31 (w := w) (by kernel_rfl) (by kernel_rfl)
    go_enter Try.func35, Try.ntmps35
    go_wp2
    go_ret
    exact ⟨rfl, rfl⟩
  | some x =>
    obtain ⟨g, rfl, hp, sv, hg, _⟩ := hv
    have h1 := call_load hb
    have h2 := from_some 61 78 31 (w := w) (b := g) (fr := (0, 0)) (by kernel_rfl) (by kernel_rfl) hg (by kernel_rfl) (by simp) (by kernel_rfl)
    clear hg
    go_enter Try.func35, Try.ntmps35
    go_wp2
    go_ret
    exact ⟨rfl, rfl⟩
/-- The table's pointer is put. -/
theorem storeR_any {w : World} {b r : Nat} {u : Value} {cs : Array Value} (hb : w.cell? ⟨b, 0, none⟩ = some u) (hz : w.frozen? ⟨b, 0, none⟩ = false) (hr : w.heap[r]? = some (.cells cs 71 (0, 0))) (hcs : cs.size = 1) : Calls Try.prog 29 #[.pointer (some ⟨b, 0, none⟩), .pointer (some ⟨r, 0, none⟩)] w fun e w' => (∃ v, e = .returned v) ∧ w' = w.setCell ⟨b, 0, none⟩ (.pointer (some ⟨r, 0, none⟩)) := by
  have h1 := call_store (x := some ⟨r, 0, none⟩) hb hz
  have hcr : w.cell? ⟨r, 0, none⟩ = some cs[0] := by simp [World.cell?, hr, hcs]
  have h2 := run_convert_to_unsafe (P := Try.prog) (src := 57) (dst := 61) (t := 71) (by kernel_rfl) (by kernel_rfl) (by kernel_rfl) hcr
  clear hr hcr
  go_enter Try.func29, Try.ntmps29
  go_wp2
  go_end0
  exact ⟨⟨_, rfl⟩, rfl⟩
/-- An empty cell is filled. -/
theorem casE_any {w : World} {c j g : Nat} {cs : Array Value} (hb : w.cell? ⟨c, j, none⟩ = some (.pointer none)) (hz : w.frozen? ⟨c, j, none⟩ = false) (hg : w.heap[g]? = some (.cells cs 31 (0, 0))) (hcs : cs.size = 3) : Calls Try.prog 42 #[.pointer (some ⟨c, j, none⟩), .pointer none, .pointer (some ⟨g, 0, none⟩)] w fun e w' => e = .returned (.bool true) ∧ w' = w.setCell ⟨c, j, none⟩ (.pointer (some ⟨g, 0, none⟩)) := by
  have h1 := call_cas (x := ⟨g, 0, none⟩) hb hz
  have hcr : w.cell? ⟨g, 0, none⟩ = some cs[0] := by simp [World.cell?, hg, hcs]
  have h2 := run_convert_to_unsafe (P := Try.prog) (src := 78) (dst := 61) (t := 31) (by kernel_rfl) (by kernel_rfl) (by kernel_rfl) hcr
  have h3 := to_nil 78 61 31 (w := w) (by kernel_rfl) (by kernel_rfl)
  clear hg hcr
  go_enter Try.func42, Try.ntmps42
  go_wp2
  go_ret
  exact ⟨rfl, rfl⟩
end Go.Proofs.Ytdgbebgjenfmbaa.M
