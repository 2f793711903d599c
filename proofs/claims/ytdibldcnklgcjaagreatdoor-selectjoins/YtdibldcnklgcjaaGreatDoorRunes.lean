/- What text.Runes gives: the characters of the bytes, ends of lines made alike; it leaves all that was there. -/
import Derived.Test.YtdibldcnklgcjaaGreatDoorCount
import Derived.Below
import Derived.OneCell
import Derived.Maps.AppendAt
import Derived.WalkSpells
namespace Go.Proofs.YtdibldcnklgcjaaGreatDoor
open Go.RowKit
set_option maxRecDepth 100000

theorem Tryz.info21 : (Tryz.prog.info? 21).map (fun i => (i.zero, i.size, i.bytes)) = some (some (.int .i32 0), 1, 4) := by kernel_rfl
theorem Tryz.info5 : (Tryz.prog.info? 5).map (fun i => (i.zero, i.size, i.bytes)) = some (some (.int .u8 0), 1, 1) := by kernel_rfl

/-- A character with ends of lines made alike. -/
def settledZ (c : Int) : Int := if c = 13 ∨ c = 12 then 10 else if c = 0 then 65533 else c

/-- The characters from place pos on, as they are. -/
def charsFrom (s : ByteArray) : Nat → Nat → List Int
  | 0, _ => []
  | f + 1, pos => if pos < s.size then ((Utf8.decode s pos).1 : Int) :: charsFrom s f (pos + (Utf8.decode s pos).2) else []
def chars (s : ByteArray) : List Int := charsFrom s s.size 0

/-- Ends of lines made alike, behind the character 'last'. -/
def normZ : Int → List Int → List Int
  | _, [] => []
  | last, c :: r => if last = 13 ∧ c = 10 then normZ c r else settledZ c :: normZ c r
def runesZ (s : ByteArray) : List Int := normZ 0 (chars s)

theorem charsFrom_end (s : ByteArray) (f pos : Nat) (h : ¬ pos < s.size) : charsFrom s f pos = [] := by
  cases f <;> simp [charsFrom, h]

theorem settled_any (c : Int) (w : World) : Calls Tryz.prog 30 #[.int .i32 c] w fun e w' => e = .returned (.int .i32 (settledZ c)) ∧ w = w' := by
  by_cases h13 : c = 13
  · subst h13
    go_enter Tryz.func30, Tryz.ntmps30
    go_wp2
    go_ret
    exact ⟨rfl, rfl⟩
  · by_cases h12 : c = 12
    · subst h12
      go_enter Tryz.func30, Tryz.ntmps30
      go_wp2
      go_ret
      exact ⟨rfl, rfl⟩
    · by_cases h0 : c = 0
      · subst h0
        go_enter Tryz.func30, Tryz.ntmps30
        go_wp2
        go_ret
        exact ⟨rfl, rfl⟩
      · have e : settledZ c = c := by simp [settledZ, h13, h12, h0]
        rw [e]
        clear e
        go_enter Tryz.func30, Tryz.ntmps30
        go_wp2
        go_ret
        exact ⟨rfl, rfl⟩

/-- An owned row stays owned while a string's iterator moves on. -/
theorem ownsRow_iter {w : World} {B : Nat} {e : TypeId} {v : Value} {n : Nat} {xs : List Value} (h : w.ownsRow B e 1 v n xs) {k : Nat} {s : ByteArray} {pos : Nat} (hk : w.heap[k]? = some (.stringIter s pos)) (pos' : Nat) :
    (w.iterAt k s pos').ownsRow B e 1 v n xs := by
  refine ⟨h.1, ?_⟩
  rcases h.2 with hn | ⟨g, cap, cur, hv, hb, hg, rest⟩
  · exact .inl hn
  · have hkg : g ≠ k := by
      intro e1
      rw [e1, hk] at hg
      cases hg
    exact .inr ⟨g, cap, cur, hv, hb, (Lib.iterAt_other w k g s pos' hkg).trans hg, rest⟩

/-- A string's iterator stands where it stood behind an append to an owned row. -/
theorem iter_grown {w w' : World} {B : Nat} {e : TypeId} {v : Value} {n : Nat} {xs : List Value} (h : w.ownsRow B e 1 v n xs) {k : Nat} {s : ByteArray} {pos : Nat} (hk : w.heap[k]? = some (.stringIter s pos)) (hg : w.grownBy w' v.ownBlock) :
    w'.heap[k]? = some (.stringIter s pos) := by
  have hlt : k < w.heap.size := (Array.getElem?_eq_some_iff.1 hk).1
  rw [hg.block k hlt ?_]
  · exact hk
  · intro hkv
    rcases h.2 with ⟨rfl, _⟩ | ⟨g, cap, cur, rfl, _, hgg, _⟩
    · simp [Value.ownBlock] at hkv
    · simp [Value.ownBlock] at hkv
      subst hkv
      rw [hk] at hgg
      cases hgg

theorem conv_any {w : World} {v : Value} {s : ByteArray} (h : BytesAt w v s) : (convert 50 9 v).run Tryz.prog w = .ok (.string s) w := by
  obtain ⟨a, cap, rfl, _, hc⟩ := h
  by_cases h0 : 0 < s.size
  · obtain ⟨b, off, rfl, hc'⟩ := hc h0
    exact conv hc'
  · have e : s = ByteArray.empty := by
      cases s with
      | mk d =>
        have : d.size = 0 := by simp only [ByteArray.size] at h0; omega
        have : d = #[] := by simpa using this
        subst this
        rfl
    subst e
    exact conv_empty

theorem BytesAt.below {w w' : World} {v : Value} {s : ByteArray} (h : BytesAt w v s) (hb : Below w.heap.size w w') : BytesAt w' v s := by
  obtain ⟨a, cap, rfl, h1, hc⟩ := h
  refine ⟨a, cap, rfl, h1, fun h0 => ?_⟩
  obtain ⟨b, off, rfl, hc'⟩ := hc h0
  refine ⟨b, off, rfl, fun j hj => ?_⟩
  have := hc' j hj
  exact (hb.cell (World.block_lt_of_cell? w _ this)).trans this

set_option maxHeartbeats 4000000 in
set_option maxRecDepth 1000000 in
theorem runes_any (v : Value) (s : ByteArray) (w : World) (hs : s.size ≤ 1000000000000) (hv : BytesAt w v s) :
    Calls Tryz.prog 12 #[v] w fun e w' => ∃ u, e = .returned u ∧ w'.ownsRow w.heap.size 21 1 u (runesZ s).length ((runesZ s).map (Value.int .i32)) ∧ Below w.heap.size w w' := by
  obtain ⟨i0, hi, hz0, hz1, hz2⟩ := info_parts Tryz.info21
  go_enter Tryz.func12, Tryz.ntmps12
  go_wp2_with (first | (go_at_call 29; refine (count_any v s _ hs hv).mono ?_; rintro e w1 ⟨⟨n, rfl, hn⟩, hb1⟩) | (at_make; refine wpList_make_own _ rfl _ _ 48 rfl w.heap.size 21 i0 (.int .i32 0) 1 Tryz.underlying48 hi hz0 hz1 .i64 .i64 _ n rfl rfl rfl (by rw [hz2]; omega) (by unfold maxLen; omega) hb1.size ?_; intro w2 hown2 hgrow2; have hb2 : Below w.heap.size w w2 := hb1.grown hgrow2 hb1.size (by simp); have hcv := conv_any (hv.below hb2)))
  clear hgrow2 hcv hb1 hn
  go_loopw [3, 4] (fun out last wr => ∃ (pos fuel : Nat) (acc : List Int) (l : Int), wr.ownsRow w.heap.size 21 1 out acc.length (acc.map (Value.int .i32)) ∧ last = .int .i32 l ∧ wr.heap[w2.heap.size]? = some (.stringIter s pos) ∧ Below w.heap.size w wr ∧ acc ++ normZ l (charsFrom s fuel pos) = runesZ s ∧ s.size ≤ pos + fuel ∧ acc.length ≤ pos) (fun _ _ wr => s.size - wr.iterPos w2.heap.size)
  case atStart =>
    refine ⟨0, s.size, [], 0, hown2.alloc _, rfl, World.iter_heap w2 s 0, Below.iter hb2 hb2.size s 0, rfl, by omega, by simp⟩
  case round =>
    obtain ⟨pos, fuel, acc, l, hown, rfl, hit, hbw, hacc, hfu, hal⟩ := hrel
    have hsz : w2.heap.size < wr.heap.size := (Array.getElem?_eq_some_iff.1 hit).1
    by_cases hp : pos < s.size
    · have hnx : ∀ ty, (Instr.next (.pointer (some ⟨w2.heap.size, 0, none⟩)) true ty).run Tryz.prog wr = _ := fun ty => Lib.run_next_any_at wr w2.heap.size s pos ty hit hp
      have hwd := Lib.decode_width_pos s pos hp
      have hown3 := ownsRow_iter hown hit (pos + (Utf8.decode s pos).2)
      have hit3 := Lib.iterAt_heap wr w2.heap.size s pos (pos + (Utf8.decode s pos).2) hit
      have hbw3 := Lib.below_iterAt hbw (k := w2.heap.size) hb2.size s (pos + (Utf8.decode s pos).2)
      have hsz3 : w2.heap.size < (wr.iterAt w2.heap.size s (pos + (Utf8.decode s pos).2)).heap.size := by rw [Lib.iterAt_size]; omega
      obtain ⟨f, rfl⟩ : ∃ f, fuel = f + 1 := ⟨fuel - 1, by omega⟩
      simp only [charsFrom, if_pos hp] at hacc
      generalize Utf8.decode s pos = dc at *
      obtain ⟨c, d⟩ := dc
      simp only at *
      generalize wr.iterAt w2.heap.size s (pos + d) = W at *
      have hm : s.size - W.iterPos w2.heap.size < s.size - wr.iterPos w2.heap.size := by
        simp only [World.iterPos, hit3, hit]
        omega
      have hb2s := hb2.size
      clear hown hbw hit
      by_cases hskip : l = 13 ∧ (c : Int) = 10
      · obtain ⟨rfl, hc10⟩ := hskip
        go_wp2
        go_roundw
        case rel => exact ⟨pos + d, f, acc, 10, hown3, rfl, hit3, hbw3, by rw [← hacc]; simp [normZ, hc10], by omega, by omega⟩
        case measure => exact hm
      · have hn : normZ l (↑c :: charsFrom s f (pos + d)) = settledZ c :: normZ c (charsFrom s f (pos + d)) := by
          simp only [normZ, if_neg hskip]
        rw [hn] at hacc
        clear hn
        rcases (show (¬ l = 13) ∨ (l = 13 ∧ ¬ (c : Int) = 10) by by_cases h : l = 13 <;> simp_all) with h13 | ⟨rfl, hc10⟩
        all_goals
          go_wp2_with (first | (go_at_call 30; refine (settled_any _ _).mono ?_; rintro e w' ⟨rfl, rfl⟩) | (at_builtin; go_must (refine wpList_append_own _ rfl _ _ 48 rfl w.heap.size 21 i0 (.int .i32 0) 1 4 Tryz.underlying48 hi hz0 hz1 hz2 rfl (by decide) _ _ _ rfl (hown3.alloc _) ⟨W.heap.size, 0, none⟩ 1 1 [.int .i32 (settledZ c)] rfl rfl (cell_one_new _ _ _) (by intro u hu; simp at hu; subst hu; rfl) (by unfold maxLen; omega) (by omega) (by simp; omega) ?_); intro v' w5 hown5 hgrow5 _; have hit5 := iter_grown (hown3.alloc _) ((Below.heap_alloc W _ _ hsz3).trans hit3) hgrow5; have hbw5 := (hbw3.alloc (by omega) _).grown hgrow5 (by simp; omega) (fun k hk => (hown3.lt k hk).1)))
          go_roundw
          case rel => exact ⟨pos + d, f, acc ++ [settledZ c], c, by simpa using hown5, rfl, hit5, hbw5, by rw [← hacc]; simp, by omega, by simp; omega⟩
          case measure => simp only [World.iterPos, hit5, hit3] at hm ⊢; exact hm
    · have hnx : ∀ ty, (Instr.next (.pointer (some ⟨w2.heap.size, 0, none⟩)) true ty).run Tryz.prog wr = _ := fun ty => Lib.run_next_end_at wr w2.heap.size s pos ty hit hp
      go_wp2
      go_ret
      rw [charsFrom_end s fuel pos hp] at hacc
      simp only [normZ, List.append_nil] at hacc
      subst hacc
      exact ⟨_, rfl, hown, hbw⟩

end Go.Proofs.YtdibldcnklgcjaaGreatDoor
