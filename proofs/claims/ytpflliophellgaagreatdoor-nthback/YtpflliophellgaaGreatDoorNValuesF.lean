/- parse.Values of tokens that open no block. parse.Values of tokens that open no block: what it tells. -/
import Derived.Test.YtpflliophellgaaGreatDoorNParseN
import Derived.Deep.AppendLies
import Derived.Deep.DeepCutAuto
namespace Go.Proofs.YtpflliophellgaaGreatDoor.N
open Go.RowKit
set_option maxRecDepth 100000

/-- The slice v holds the tokens ts. -/
def ToksAt (W : World) (v : Value) (ts : List Tk) : Prop :=
  ∃ a cap, v = .slice a ts.length cap ∧ ts.length ≤ cap ∧ cap ≤ 9223372036854775807 ∧ (0 < ts.length → ∃ b off, a = some ⟨b, off, none⟩ ∧ b < W.heap.size ∧ ∀ i (h : i < ts.length), ∀ j y, j < 5 → (tkCells (ts[i]'h))[j]? = some y → W.cell? ⟨b, off + i * 5 + j, none⟩ = some y)
/-- A kind that opens no block. -/
def flatK (k : Int) : Prop := k ≠ 2 ∧ k ≠ 19 ∧ k ≠ 21 ∧ k ≠ 23
set_option maxHeartbeats 400000 in
theorem closeOf_flat (k : Int) (h : flatK k) (w : World) : Calls Tryz.prog 52 #[.int .i64 k] w fun e w' => e = .returned (.int .i64 0) ∧ w = w' := by
  obtain ⟨h1, h2, h3, h4⟩ := h
  have z1 : (k == 2) = false := by simpa using h1
  have z2 : (k == 19) = false := by simpa using h2
  have z3 : (k == 21) = false := by simpa using h3
  have z4 : (k == 23) = false := by simpa using h4
  go_enter Tryz.func52, Tryz.ntmps52
  go_wp2
  go_ret
  exact ⟨rfl, rfl⟩
set_option maxHeartbeats 400000 in
theorem ends_flat (cs : Array Value) (w : World) : Calls Tryz.prog 17 #[.agg cs] w fun e w' => e = .returned (.bool false) ∧ Below w.heap.size w w' := by
  go_enter Tryz.func17, Tryz.ntmps17
  go_wp2
  go_ret
  exact ⟨rfl, (Below.refl _ w).alloc (Nat.le_refl _) _⟩
theorem Tryz.info66 : (Tryz.prog.info? 66).map (fun i => (i.zero, i.size, i.bytes)) = some (some (.agg #[.int .i64 0, .string ⟨#[]⟩, .string ⟨#[]⟩, .bool false, .bool false, .slice none 0 0]), 6, 72) := by kernel_rfl
theorem ownsRow_keep {w w' : World} {B : Nat} {e : TypeId} {s : Nat} {v : Value} {n : Nat} {xs : List Value} (h : w.ownsRow B e s v n xs) (hk : ∀ g, g < w.heap.size → v.ownBlock = some g → w'.heap[g]? = w.heap[g]?) : w'.ownsRow B e s v n xs := by
  refine ⟨h.1, ?_⟩
  rcases h.2 with hn | ⟨g, cap, cur, hv, hb, hg, rest⟩
  · exact .inl hn
  · exact .inr ⟨g, cap, cur, hv, hb, (hk g (Array.getElem?_eq_some_iff.1 hg).1 (by rw [hv]; rfl)).trans hg, rest⟩
theorem ownsRow_below {w w' : World} {B : Nat} {e : TypeId} {s : Nat} {v : Value} {n : Nat} {xs : List Value} (h : w.ownsRow B e s v n xs) (hb : Below w.heap.size w w') : w'.ownsRow B e s v n xs :=
  ownsRow_keep h fun g hg _ => hb.block g hg

theorem news6 (w : World) (x0 x1 x2 x3 x4 x5 : Value) (j : Nat) (u : Value) (h : [x0, x1, x2, x3, x4, x5][j]? = some u) : (w.alloc (.cells #[x0, x1, x2, x3, x4, x5] 66)).cell? ((⟨w.heap.size, 0, none⟩ : Addr).add j) = some u :=
  World.news_of_block (cs := #[x0, x1, x2, x3, x4, x5]) (t := 66) (fr := (0, 0)) (heap_alloc_new w _) j u h
theorem slice_eq {a a' : Option Addr} {n n' c c' : Nat} (h1 : a = a') (h2 : n = n') (h3 : c = c') : Value.slice a n c = .slice a' n' c' := by subst h1 h2 h3; rfl
theorem addr_eq {b o o' : Nat} (h : o = o') : (⟨b, o, none⟩ : Addr) = ⟨b, o', none⟩ := by subst h; rfl
def sliceLen : Value → Nat
  | .slice _ n _ => n
  | _ => 0
set_option maxHeartbeats 1000000 in
theorem read_flat (W : World) (v : Value) (ts : List Tk) (hv : ToksAt W v ts) (hn : ts.length ≤ 1000) (hf : ∀ t ∈ ts, flatK t.k ∧ t.kid = .slice none 0 0) :
    Calls Tryz.prog 16 #[v, .int .i64 0, .func (.func 17) #[] #[]] W fun e w' => ∃ out, e = .returned (.tuple #[out, .slice none 0 0]) ∧ w'.ownsRow W.heap.size 66 6 out ts.length (ts.flatMap tkCells) ∧ Below W.heap.size W w' := by
  obtain ⟨i0, hi0, hz0, hz1, hz2⟩ := info_parts Tryz.info66
  obtain ⟨a, cap, rfl, hl, hcap, hc⟩ := hv
  go_enter Tryz.func16, Tryz.ntmps16
  go_wp2
  go_loopw [0, 8] (fun a0 a8 wr => ∃ (k : Nat) (a' : Option Addr), k ≤ ts.length ∧ a0 = .slice a' (ts.length - k) (cap - k) ∧ (k < ts.length → ∃ b off, a = some ⟨b, off, none⟩ ∧ a' = some ⟨b, off + k * 5, none⟩) ∧ wr.ownsRow W.heap.size 66 6 a8 k ((ts.take k).flatMap tkCells) ∧ Below W.heap.size W wr) (fun a0 _ _ => sliceLen a0)
  case atStart => exact ⟨0, a, Nat.zero_le _, rfl, fun h => by obtain ⟨b, off, ha, _⟩ := hc h; exact ⟨b, off, ha, by rw [ha]; simp⟩, World.ownsRow_nil _ _ _ _, Below.refl _ _⟩
  case round =>
    obtain ⟨k, a', hk, rfl, ha', hown, hB⟩ := hrel
    by_cases hlt : k < ts.length
    · obtain ⟨b, off, rfl, rfl⟩ := ha' hlt
      obtain ⟨b', off', hab, hbw, hcell⟩ := hc (by omega)
      have eb : b' = b := by
        have := Option.some.inj hab
        injection this with e1 e2
        exact e1.symm
      have eo : off' = off := by
        have := Option.some.inj hab
        injection this with e1 e2
        exact e2.symm
      subst eb eo
      clear hab
      have hcc : ∀ j y, j < 5 → (tkCells (ts[k]'hlt))[j]? = some y → wr.cell? ⟨b', off' + k * 5 + j, none⟩ = some y := fun j y hj hy => (hB.cell (p := ⟨b', off' + k * 5 + j, none⟩) hbw).trans (hcell k hlt j y hj hy)
      have hfl := hf _ (List.getElem_mem hlt)
      have HTK : Hid (ts.take (k + 1) = ts.take k ++ [ts[k]'hlt]) := by
        show _ = _
        rw [List.take_add_one]
        simp [hlt]
      generalize ts[k]'hlt = t at *
      obtain ⟨kk, tx, un, wh, fl, kid⟩ := t
      have c0 := hcc 0 _ (by omega) rfl
      have c1 := hcc 1 _ (by omega) rfl
      have c2 := hcc 2 _ (by omega) rfl
      have c3 := hcc 3 _ (by omega) rfl
      have c4 := hcc 4 _ (by omega) rfl
      simp only [Nat.add_zero] at c0 c1 c2 c3 c4 hfl
      obtain ⟨hfk, rfl⟩ := hfl
      have hen := fun w => ends_flat #[.int .i64 kk, .string tx, .string un, .bool wh, .bool fl] w
      have hco := fun w => closeOf_flat kk hfk w
      have hpos : (0 : Int) < ((ts.length - k : Nat) : Int) := by omega
      have hcp : ((ts.length - k : Nat) : Int) ≤ ((cap - k : Nat) : Int) := by omega
      have HL : Hid (ts.length - k = (ts.length - (k + 1)) + 1 ∧ cap - k = (cap - (k + 1)) + 1) := by
        show _ ∧ _
        omega
      clear hcc hc hcell
      have hBA : Below W.heap.size W (wr.alloc (.cells #[.int .i64 kk, .string tx, .string un, .bool wh, .bool fl] 44)) := hB.alloc hB.size _
      have hownA := hown.alloc (.cells #[.int .i64 kk, .string tx, .string un, .bool wh, .bool fl] 44)
      have hsA : (wr.alloc (.cells #[.int .i64 kk, .string tx, .string un, .bool wh, .bool fl] 44)).heap.size = wr.heap.size + 1 := by simp
      have hblkA := heap_alloc_new wr (.cells #[.int .i64 kk, .string tx, .string un, .bool wh, .bool fl] 44)
      go_wp2_with (go_at_call 17; fail)
      all_goals
        refine (hen _).mono ?_
        rintro e w1 ⟨rfl, b1⟩
        have hB1 : Below W.heap.size W w1 := hBA.trans (b1.mono hBA.size)
        have hbs1 := hB1.size
        have hown1 := ownsRow_below hownA b1
        have hblk1 : w1.heap[wr.heap.size]? = some (.cells #[.int .i64 kk, .string tx, .string un, .bool wh, .bool fl] 44 (0, 0)) := (b1.block _ (by omega)).trans hblkA
        obtain ⟨q0, q1, q2, q3, q4⟩ := tok5 hblk1
        clear b1 hen hBA hownA hblkA
        go_wp2_with (go_at_call 52; fail)
        refine (hco _).mono ?_
        rintro e w' ⟨rfl, rfl⟩
        clear hco
        go_wp2_with (at_builtin; go_must (refine wpList_append_own _ rfl _ _ 25 rfl W.heap.size 66 i0 _ 6 72 Tryz.underlying25 hi0 hz0 hz1 hz2 rfl (by decide) _ _ _ rfl (hown1.alloc _) ⟨w1.heap.size, 0, none⟩ 1 1 [.int .i64 kk, .string tx, .string un, .bool wh, .bool fl, .slice none 0 0] rfl rfl (news6 w1 _ _ _ _ _ _) (by intro u hu; simp at hu; rcases hu with rfl | rfl | rfl | rfl | rfl | rfl <;> rfl) (by unfold maxLen; omega) (by omega) (by simp; omega) ?_); intro v' w7 hown7 hgrow7 _)
        go_roundw
        case rel =>
          refine ⟨k + 1, _, by omega, slice_eq rfl (by omega) (by omega), fun h => ⟨b', off', rfl, by first | (exact congrArg some (addr_eq (by omega))) | omega⟩, ?_, (hB1.alloc hB1.size _).grown hgrow7 (by have := hB1.size; simp; omega) (fun k hk => (hown1.lt k hk).1)⟩
          rw [HTK.out, List.flatMap_append, List.flatMap_singleton]
          simpa [tkCells] using hown7
        case measure => simp [sliceLen]; omega
    · have hke : k = ts.length := by omega
      subst hke
      have e0 : ts.length - ts.length = 0 := by omega
      rw [e0]
      have HE : Hid (ts.take ts.length = ts) := List.take_length
      go_wp2
      go_ret2
      exact ⟨_, rfl, by rw [HE.out] at hown; exact hown, hB⟩

end Go.Proofs.YtpflliophellgaaGreatDoor.N
namespace Go.Proofs.YtpflliophellgaaGreatDoor.N
open Go.RowKit
set_option maxRecDepth 100000

theorem own_cell {w : World} {B : Nat} {e : TypeId} {s : Nat} {v : Value} {n : Nat} {xs : List Value} (h : w.ownsRow B e s v n xs) (h0 : 0 < n) : ∃ g cap, v = .slice (some ⟨g, 0, none⟩) n cap ∧ g < w.heap.size ∧ n ≤ cap ∧ cap ≤ maxLen ∧ ∀ j y, xs[j]? = some y → w.cell? ⟨g, j, none⟩ = some y := by
  obtain ⟨hl, h⟩ := h
  rcases h with ⟨_, hn⟩ | ⟨g, cap, cur, hv, _, hg, hnc, hcm, hcs, hx⟩
  · omega
  · refine ⟨g, cap, hv, (Array.getElem?_eq_some_iff.1 hg).1, hnc, hcm, fun j y hy => ?_⟩
    have hj : j < n * s := by
      have := (List.getElem?_eq_some_iff.1 hy).1
      omega
    rw [← hx, List.getElem?_take_of_lt hj] at hy
    simp only [World.cell?, hg]
    simpa using hy
theorem own_none {w : World} {B : Nat} {e : TypeId} {s : Nat} {v : Value} {xs : List Value} (h : w.ownsRow B e s v 0 xs) : ∃ a cap, v = .slice a 0 cap ∧ cap ≤ maxLen := by
  rcases h.2 with ⟨hv, _⟩ | ⟨g, cap, cur, hv, _, _, _, hcm, _⟩
  · exact ⟨none, 0, hv, Nat.zero_le _⟩
  · exact ⟨_, cap, hv, hcm⟩
theorem flat_get {α : Type} (f : α → List Value) (s : Nat) (hf : ∀ t, (f t).length = s) : ∀ (ts : List α) (k i : Nat) (h : k < ts.length), i < s → (ts.flatMap f)[k * s + i]? = (f (ts[k]'h))[i]?
  | [], k, _, h, _ => by simp at h
  | t :: r, 0, i, _, hi => by
    simp only [List.flatMap_cons, Nat.zero_mul, Nat.zero_add]
    rw [List.getElem?_append_left (by rw [hf]; exact hi)]
    rfl
  | t :: r, k + 1, i, h, hi => by
    have e : (k + 1) * s + i = s + (k * s + i) := by rw [Nat.add_mul]; omega
    rw [List.flatMap_cons, e, List.getElem?_append_right (by rw [hf]; omega)]
    have e2 : s + (k * s + i) - (f t).length = k * s + i := by rw [hf]; omega
    rw [e2]
    exact flat_get f s hf r k i (by simpa using h) hi
theorem vals_own {w : World} {B : Nat} {v : Value} {ts : List Tk} (h : w.ownsRow B 66 6 v ts.length (ts.flatMap tkCells)) (hk : ∀ t ∈ ts, t.kid = .slice none 0 0) : ValsAt w v ts := by
  by_cases h0 : 0 < ts.length
  · obtain ⟨g, cap, hv, hg, hnc, hcm, hc⟩ := own_cell h h0
    refine ⟨_, cap, hv, hnc, hcm, fun t ht => .inl (hk t ht), fun _ => ⟨g, 0, rfl, hg, fun i hi j y hy => ?_⟩⟩
    have hj : j < 6 := by
      have := (List.getElem?_eq_some_iff.1 hy).1
      simpa [tkCells] using this
    have := hc (i * 6 + j) y ((flat_get tkCells 6 (fun t => rfl) ts i j hi hj).trans hy)
    rw [Nat.zero_add]
    exact this
  · have hts : ts = [] := List.length_eq_zero_iff.1 (by omega)
    subst hts
    obtain ⟨a, cap, hv, hcm⟩ := own_none h
    exact ⟨a, cap, hv, Nat.zero_le _, hcm, (fun t ht => by cases ht), fun h => absurd h (by simp)⟩
def tk5 (t : Tk) : List Value := [.int .i64 t.k, .string t.tx, .string t.un, .bool t.wh, .bool t.fl]
theorem toks_own {w : World} {B : Nat} {v : Value} {ts : List Tk} (h : w.ownsRow B 44 5 v ts.length (ts.flatMap tk5)) : ToksAt w v ts := by
  by_cases h0 : 0 < ts.length
  · obtain ⟨g, cap, hv, hg, hnc, hcm, hc⟩ := own_cell h h0
    refine ⟨_, cap, hv, hnc, hcm, fun _ => ⟨g, 0, rfl, hg, fun i hi j y hj hy => ?_⟩⟩
    have h5 : (tk5 (ts[i]'hi))[j]? = some y := by
      rw [← hy]
      rcases (show j = 0 ∨ j = 1 ∨ j = 2 ∨ j = 3 ∨ j = 4 by omega) with rfl | rfl | rfl | rfl | rfl <;> rfl
    have := hc (i * 5 + j) y ((flat_get tk5 5 (fun t => rfl) ts i j hi hj).trans h5)
    rw [Nat.zero_add]
    exact this
  · have hts : ts = [] := List.length_eq_zero_iff.1 (by omega)
    subst hts
    obtain ⟨a, cap, hv, hcm⟩ := own_none h
    exact ⟨a, cap, hv, Nat.zero_le _, hcm, fun h => absurd h (by simp)⟩
set_option maxHeartbeats 400000 in
theorem values_flat (W : World) (v : Value) (ts : List Tk) (hv : ToksAt W v ts) (hn : ts.length ≤ 1000) (hf : ∀ t ∈ ts, flatK t.k ∧ t.kid = .slice none 0 0) :
    Calls Tryz.prog 6 #[v] W fun e w' => ∃ out, e = .returned out ∧ ValsAt w' out ts ∧ Below W.heap.size W w' := by
  have hr := read_flat W v ts hv hn hf
  have HK : Hid (∀ t ∈ ts, t.kid = .slice none 0 0) := fun t ht => (hf t ht).2
  obtain ⟨a, cap, rfl, _⟩ := hv
  clear hf
  go_enter Tryz.func6, Tryz.ntmps6
  go_wp2_with (go_at_call 16; fail)
  refine (hr).mono ?_
  rintro e w1 ⟨out, rfl, hown, b1⟩
  have HV := hid_mk (vals_own hown HK.out)
  clear hown hr
  go_wp2
  go_ret
  exact ⟨out, rfl, HV.out, b1⟩

end Go.Proofs.YtpflliophellgaaGreatDoor.N
