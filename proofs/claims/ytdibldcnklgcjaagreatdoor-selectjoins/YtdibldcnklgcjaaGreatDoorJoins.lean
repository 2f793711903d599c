/- text.Runes never answers nil. -/
import Derived.Test.YtdibldcnklgcjaaGreatDoorMath
namespace Go.Proofs.YtdibldcnklgcjaaGreatDoor
open Go.RowKit
set_option maxRecDepth 100000

theorem hid_mk {p : Prop} (h : p) : Hid p := h

set_option maxHeartbeats 4000000 in
set_option maxRecDepth 1000000 in
theorem runes_some (v : Value) (s : ByteArray) (w : World) (hs : s.size ≤ 1000000000000) (hv : BytesAt w v s) :
    Calls Tryz.prog 12 #[v] w fun e w' => ∃ u, e = .returned u ∧ w'.ownsRow w.heap.size 21 1 u (runesZ s).length ((runesZ s).map (Value.int .i32)) ∧ Below w.heap.size w w' ∧ u ≠ .slice none 0 0 := by
  obtain ⟨i0, hi, hz0, hz1, hz2⟩ := info_parts Tryz.info21
  go_enter Tryz.func12, Tryz.ntmps12
  go_wp2_with (first | (go_at_call 29; refine (count_any v s _ hs hv).mono ?_; rintro e w1 ⟨⟨n, rfl, hn⟩, hb1⟩) | (at_make; refine wpList_make_own _ rfl _ _ 48 rfl w.heap.size 21 i0 (.int .i32 0) 1 Tryz.underlying48 hi hz0 hz1 .i64 .i64 _ n rfl rfl rfl (by rw [hz2]; omega) (by unfold maxLen; omega) hb1.size ?_; intro w2 hown2 hgrow2; have hb2 : Below w.heap.size w w2 := hb1.grown hgrow2 hb1.size (by simp); have hcv := conv_any (hv.below hb2)))
  clear hgrow2 hcv hb1 hn
  go_loopw [3, 4] (fun out last wr => ∃ (pos fuel : Nat) (acc : List Int) (l : Int), wr.ownsRow w.heap.size 21 1 out acc.length (acc.map (Value.int .i32)) ∧ last = .int .i32 l ∧ wr.heap[w2.heap.size]? = some (.stringIter s pos) ∧ Below w.heap.size w wr ∧ acc ++ normZ l (charsFrom s fuel pos) = runesZ s ∧ s.size ≤ pos + fuel ∧ acc.length ≤ pos ∧ out ≠ .slice none 0 0) (fun _ _ wr => s.size - wr.iterPos w2.heap.size)
  case atStart =>
    refine ⟨0, s.size, [], 0, hown2.alloc _, rfl, World.iter_heap w2 s 0, Below.iter hb2 hb2.size s 0, rfl, by omega, by simp, by simp⟩
  case round =>
    obtain ⟨pos, fuel, acc, l, hown, rfl, hit, hbw, hacc, hfu, hal, hne⟩ := hrel
    have hsz : w2.heap.size < wr.heap.size := (Array.getElem?_eq_some_iff.1 hit).1
    by_cases hp : pos < s.size
    · have hnx : ∀ ty, (Instr.next (.pointer (some ⟨w2.heap.size, 0, none⟩)) true ty).run Tryz.prog wr = _ := fun ty => Lib.run_next_any_at wr w2.heap.size s pos ty hit hp
      have hwd := Lib.decode_width_pos s pos hp
      have hown3 := ownsRow_iter hown hit (pos + (Utf8.decode s pos).2)
      have hit3 := Lib.iterAt_heap wr w2.heap.size s pos (pos + (Utf8.decode s pos).2) hit
      have hbw3 := Lib.below_iterAt hbw (k := w2.heap.size) hb2.size s (pos + (Utf8.decode s pos).2)
      have hsz3 : w2.heap.size < (wr.iterAt w2.heap.size s (pos + (Utf8.decode s pos).2)).heap.size := by rw [Lib.iterAt_size]; omega
      obtain ⟨f, rfl⟩ : ∃ f, fuel = f + 1 := ⟨fuel - 1, by omega⟩
      simp only [charsFrom, if_pos hp] at hacc
      generalize Utf8.decode s pos = dc at *
      obtain ⟨c, d⟩ := dc
      simp only at *
      generalize wr.iterAt w2.heap.size s (pos + d) = W at *
      have hm : s.size - W.iterPos w2.heap.size < s.size - wr.iterPos w2.heap.size := by
        simp only [World.iterPos, hit3, hit]
        omega
      have hb2s := hb2.size
      have HNE := hid_mk hne
      clear hown hbw hit hne
      by_cases hskip : l = 13 ∧ (c : Int) = 10
      · obtain ⟨rfl, hc10⟩ := hskip
        go_wp2
        go_roundw
        case rel => exact ⟨pos + d, f, acc, 10, hown3, rfl, hit3, hbw3, by rw [← hacc]; simp [normZ, hc10], by omega, by omega, HNE.out⟩
        case measure => exact hm
      · have hn : normZ l (↑c :: charsFrom s f (pos + d)) = settledZ c :: normZ c (charsFrom s f (pos + d)) := by
          simp only [normZ, if_neg hskip]
        rw [hn] at hacc
        clear hn
        rcases (show (¬ l = 13) ∨ (l = 13 ∧ ¬ (c : Int) = 10) by by_cases h : l = 13 <;> simp_all) with h13 | ⟨rfl, hc10⟩
        all_goals
          go_wp2_with (first | (go_at_call 30; refine (settled_any _ _).mono ?_; rintro e w' ⟨rfl, rfl⟩) | (at_builtin; go_must (refine wpList_append_own _ rfl _ _ 48 rfl w.heap.size 21 i0 (.int .i32 0) 1 4 Tryz.underlying48 hi hz0 hz1 hz2 rfl (by decide) _ _ _ rfl (hown3.alloc _) ⟨W.heap.size, 0, none⟩ 1 1 [.int .i32 (settledZ c)] rfl rfl (cell_one_new _ _ _) (by intro u hu; simp at hu; subst hu; rfl) (by unfold maxLen; omega) (by omega) (by simp; omega) ?_); intro v' w5 hown5 hgrow5 hnil5; have hit5 := iter_grown (hown3.alloc _) ((Below.heap_alloc W _ _ hsz3).trans hit3) hgrow5; have hbw5 := (hbw3.alloc (by omega) _).grown hgrow5 (by simp; omega) (fun k hk => (hown3.lt k hk).1)))
          go_roundw
          case rel => exact ⟨pos + d, f, acc ++ [settledZ c], c, by simpa using hown5, rfl, hit5, hbw5, by rw [← hacc]; simp, by omega, by simp; omega, fun h => by have := (hnil5.1 h).2; omega⟩
          case measure => simp only [World.iterPos, hit5, hit3] at hm ⊢; exact hm
    · have hnx : ∀ ty, (Instr.next (.pointer (some ⟨w2.heap.size, 0, none⟩)) true ty).run Tryz.prog wr = _ := fun ty => Lib.run_next_end_at wr w2.heap.size s pos ty hit hp
      go_wp2
      go_ret
      rw [charsFrom_end s fuel pos hp] at hacc
      simp only [normZ, List.append_nil] at hacc
      subst hacc
      exact ⟨_, rfl, hown, hbw, hne⟩


/-! ### two texts side by side -/
theorem decode_shift (l m : List Int) (hl : ∀ n ∈ l, 0 ≤ n ∧ n < 256) (hm : ∀ n ∈ m, 0 ≤ n ∧ n < 256) (pos : Nat) : Utf8.decode (strOfNums (l ++ m)) (l.length + pos) = Utf8.decode (strOfNums m) pos := by
  have hall : ∀ n ∈ l ++ m, 0 ≤ n ∧ n < 256 := by
    intro n hn
    rcases List.mem_append.1 hn with h | h
    · exact hl n h
    · exact hm n h
  have hg : ∀ j, ((strOfNums (l ++ m)).get! (l.length + j)).toNat = ((strOfNums m).get! j).toNat := by
    intro j
    rw [str_get hall, str_get hm, List.getD_eq_getElem?_getD, List.getElem?_append_right (by omega), List.getD_eq_getElem?_getD]
    congr 3
    omega
  rw [Lib.decode_at, Lib.decode_at, strOf_size, strOf_size, List.length_append, hg pos, Nat.add_assoc, Nat.add_assoc, Nat.add_assoc, hg (pos + 1), hg (pos + 2), hg (pos + 3)]
  congr 1
  omega

theorem charsFrom_shift (l m : List Int) (hl : ∀ n ∈ l, 0 ≤ n ∧ n < 256) (hm : ∀ n ∈ m, 0 ≤ n ∧ n < 256) : ∀ (f pos : Nat), charsFrom (strOfNums (l ++ m)) f (l.length + pos) = charsFrom (strOfNums m) f pos
  | 0, _ => rfl
  | f + 1, pos => by
    have hs : (strOfNums (l ++ m)).size = l.length + m.length := by rw [strOf_size, List.length_append]
    have hs2 : (strOfNums m).size = m.length := strOf_size m
    by_cases hp : pos < m.length
    · rw [charsFrom, charsFrom, if_pos (by omega), if_pos (by omega), decode_shift l m hl hm, Nat.add_assoc, charsFrom_shift l m hl hm f]
    · rw [charsFrom_end _ _ _ (by omega), charsFrom_end _ _ _ (by omega)]

theorem norm_zero (l : List Int) (last : Int) (h : last ≠ 13) : normZ last l = normZ 0 l := by
  cases l with
  | nil => rfl
  | cons x r =>
    unfold normZ
    rw [if_neg (by intro e; exact h e.1), if_neg (by intro e; exact absurd e.1 (by omega))]

theorem norm_app : ∀ (xs cs : List Int) (last : Int), last ≠ 13 → (∀ c ∈ xs, Told c) → normZ last (xs ++ cs) = xs ++ normZ 0 cs
  | [], cs, last, hl, _ => norm_zero cs last hl
  | x :: r, cs, last, hl, h => by
    have hx := h x (by simp)
    rw [List.cons_append, List.cons_append]
    unfold normZ
    rw [if_neg (by intro e; exact hl e.1), settled_same hx, norm_app r cs x hx.2.1 (fun c hc => h c (by simp [hc]))]
    cases cs <;> rfl

theorem str_append (l : List Int) (b : ByteArray) : strOfNums l ++ b = strOfNums (l ++ b.data.toList.map fun x => (x.toNat : Int)) := by
  have hb := strOf b
  have e : (strOfNums (l ++ b.data.toList.map fun x => (x.toNat : Int))) = strOfNums l ++ strOfNums (b.data.toList.map fun x => (x.toNat : Int)) := by
    show ByteArray.mk _ = _
    rw [List.map_append]
    apply ByteArray.ext
    rw [ByteArray.data_append]
    simp [strOfNums]
  rw [e, hb]

theorem joins {xs : List Int} (hx : ∀ c ∈ xs, Told c) (b : ByteArray) : runesZ (strOfNums (bytesZ xs) ++ b) = xs ++ runesZ b := by
  have hb : ∀ n ∈ (b.data.toList.map fun x => (x.toNat : Int)), 0 ≤ n ∧ n < 256 := by
    intro n hn
    obtain ⟨x, _, rfl⟩ := List.mem_map.1 hn
    have := x.toNat_lt
    omega
  have hlen : (b.data.toList.map fun x => (x.toNat : Int)).length = b.size := by
    rw [List.length_map]
    rfl
  have hge := bytesZ_ge xs
  have h1 := chars_enc xs [] (b.data.toList.map fun x => (x.toNat : Int)) ((bytesZ xs).length - xs.length + b.size) (fun c hc => (hx c hc).1) (by simp) hb
  simp only [List.nil_append, List.length_nil, Nat.zero_add] at h1
  have h2 := charsFrom_shift (bytesZ xs) (b.data.toList.map fun x => (x.toNat : Int)) (bytesZ_byte xs) hb ((bytesZ xs).length - xs.length + b.size) 0
  rw [Nat.add_zero] at h2
  rw [h2, strOf] at h1
  have h3 : charsFrom b ((bytesZ xs).length - xs.length + b.size) 0 = chars b := by
    rw [Nat.add_comm, charsFrom_more b b.size _ 0 (by omega)]
    rfl
  rw [h3] at h1
  unfold runesZ
  rw [str_append]
  have h4 : chars (strOfNums (bytesZ xs ++ b.data.toList.map fun x => (x.toNat : Int))) = xs ++ chars b := by
    unfold chars at *
    rw [strOf_size, List.length_append, hlen, ← h1]
    congr 1
    omega
  rw [h4]
  exact norm_app xs (chars b) 0 (by omega) hx

end Go.Proofs.YtdibldcnklgcjaaGreatDoor
