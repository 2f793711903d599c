/- The name at the cutter's place, and what is left behind it. -/
import Derived.Test.YtdibldcnklgcjaaGreatDoorEsc
namespace Go.Proofs.YtdibldcnklgcjaaGreatDoor
open Go.RowKit
set_option maxRecDepth 100000

theorem wr_kept {w w' : World} {b B : Nat} {ns : List Int} (h : Wr B ns w) (hk : Kept b w w') (hb : b < B) : Wr B ns w' := by
  obtain ⟨hB, hby, hem⟩ := h
  have aux : ∀ p, Lib.BuilderAt 108 5 B B p (ns.map (Value.int .u8)) w → Lib.BuilderAt 108 5 B B p (ns.map (Value.int .u8)) w' := by
    intro p hp
    obtain ⟨h1, v, hbk, hown, hne⟩ := hp
    have hlt : B < w.heap.size := (Array.getElem?_eq_some_iff.1 hbk).1
    refine ⟨h1, v, (hk.block B hlt (by omega)).trans hbk, ⟨hown.1, ?_⟩, hne⟩
    rcases hown.2 with hn | ⟨g, cap, cur, hv, hbg, hg, rest⟩
    · exact .inl hn
    · exact .inr ⟨g, cap, cur, hv, hbg, (hk.block g ((Array.getElem?_eq_some_iff.1 hg).1) (by omega)).trans hg, rest⟩
  refine ⟨hB.elim (fun x => .inl (aux _ x)) (fun x => .inr (aux _ x)), hby, fun h0 => ?_⟩
  obtain ⟨p, hp⟩ := hem h0
  exact ⟨p, (hk.block B ((Array.getElem?_eq_some_iff.1 hp).1) (by omega)).trans hp⟩

theorem at_low {w0 wr w' : World} {b : Nat} {v out o2 : Value} {xs l l0 : List Int} (h0 : At w0 b v o2 xs l0) (h : At wr b v out xs l) (hb : Below w0.heap.size wr w') : At w' b v out xs l := by
  have hlt := at_lt h0
  obtain ⟨p, hbk, hr, ho, hp, he⟩ := h
  obtain ⟨_, _, hr0, _⟩ := h0
  refine ⟨p, (hb.block b hlt).trans hbk, ?_, ho, hp, he⟩
  obtain ⟨a0, c0, hv0, _, hc0⟩ := hr0
  obtain ⟨a, c, hv, h1, hc⟩ := hr
  refine ⟨a, c, hv, h1, fun hz => ?_⟩
  obtain ⟨rb, off, ha, hcell⟩ := hc hz
  obtain ⟨rb0, off0, ha0, hcell0⟩ := hc0 hz
  have e : a = a0 := by rw [hv] at hv0; cases hv0; rfl
  rw [ha, ha0] at e
  cases e
  refine ⟨rb, off, ha, fun j hj => ?_⟩
  have hlt0 := World.block_lt_of_cell? w0 _ (hcell0 j hj)
  exact (hb.cell (p := ⟨rb, off + j, none⟩) hlt0).trans (hcell j hj)

theorem Kept.then {b : Nat} {w0 wr w' : World} (hk : Kept b w0 wr) (hb : Below w0.heap.size wr w') : Kept b w0 w' :=
  ⟨hb.os.trans hk.os, hb.tape.trans hk.tape, hb.output.trans hk.output, Nat.le_trans hk.size hb.size, fun k h1 h2 => (hb.block k h1).trans (hk.block k h1 h2)⟩

theorem bytesZ_app (a c : List Int) : bytesZ (a ++ c) = bytesZ a ++ bytesZ c := by simp [bytesZ]
theorem bytesZ_one (c : Int) : bytesZ [c] = Lib.encodeRuneZ c := by simp [bytesZ]

section
variable {w : World} {b : Nat} {v out : Value} {xs l : List Int}
theorem escB_w (h : At w b v out xs l) (fx : Fine xs) : Calls Tryz.prog 54 #[.pointer (some ⟨b, 0, none⟩), .int .i64 0] w fun e w' => e = .returned (.bool (escB l)) ∧ ∃ m, w' = w.drewN m := escB_r h fx 0 0 rfl (by omega) 0
theorem escB_0 (h : At w b v out xs l) (fx : Fine xs) (n : Nat) : Calls Tryz.prog 54 #[.pointer (some ⟨b, 0, none⟩), .int .i64 0] (w.drewN n) fun e w' => e = .returned (.bool (escB l)) ∧ ∃ m, w' = w.drewN m := escB_r h fx 0 0 rfl (by omega) n
theorem escape_r (c : Int) (t : List Int) (h : At w b v out xs l) (hl : l = c :: t) (fx : Fine xs) (n : Nat) :
    Calls Tryz.prog 73 #[.pointer (some ⟨b, 0, none⟩)] (w.drewN n) fun e w' => e = .returned (.int .i32 (escT t).1) ∧ At w' b v out xs (t.drop (escT t).2) ∧ Kept b w w' := by
  subst hl
  refine (escape_any c t (at_drew h n) fx).mono ?_
  rintro e w' ⟨rfl, h1, h2⟩
  exact ⟨rfl, h1, (Kept.drewN b w n).trans h2⟩

theorem numbered_char {n : Int} (h0 : 0 ≤ n) : IsChar (numberedZ n) := by
  unfold numberedZ IsChar
  split <;> omega
theorem hexN_pos : ∀ (k : Nat) (l : List Int) (n : Int), 0 ≤ n → 0 ≤ (hexN k l n).1
  | 0, _, _, h => h
  | k + 1, l, n, h => by
    rw [hexN]
    split
    · exact hexN_pos k _ _ (by omega)
    · exact h
theorem escT_char {t : List Int} (ht : ∀ c ∈ t, IsChar c) : IsChar (escT t).1 := by
  unfold escT
  split
  · exact ⟨by decide, by decide, by decide⟩
  · split
    · rename_i h0 _
      obtain ⟨c, r, rfl⟩ := List.exists_cons_of_ne_nil h0
      exact ht c (by simp)
    · exact numbered_char (hexN_pos _ _ _ (by omega))
theorem at_chars (fx : Fine xs) (h : At w b v out xs l) : ∀ c ∈ l, IsChar c := by
  obtain ⟨p, _, _, _, _, rfl⟩ := h
  exact fun c hc => fx.2 c (List.mem_of_mem_drop hc)
theorem at_suf (h : At w b v out xs l) : l <:+ xs := by
  obtain ⟨p, _, _, _, _, rfl⟩ := h
  exact List.drop_suffix p xs
theorem char_32 {c : Int} (h : IsChar c) : -2147483648 ≤ c ∧ c ≤ 2147483647 := by unfold IsChar at h; omega

theorem nameT_stop (hp : partZ (hd l 0) = false) (he : escB l = false) : nameT l 0 = [] ∧ nameR l 0 = l := by
  cases l with
  | nil => exact ⟨rfl, rfl⟩
  | cons c t =>
    have hc : partZ c = false := hp
    exact ⟨by rw [nameT, if_neg (by simp [hc]), if_neg (by simp [he])], by rw [nameR, if_neg (by simp [hc]), if_neg (by simp [he])]⟩
theorem nameT_part {c : Int} {t : List Int} (hp : partZ c = true) : nameT (c :: t) 0 = c :: nameT t 0 ∧ nameR (c :: t) 0 = nameR t 0 :=
  ⟨by rw [nameT, if_pos hp], by rw [nameR, if_pos hp]⟩
theorem nameT_esc {c : Int} {t : List Int} (hp : partZ c = false) (he : escB (c :: t) = true) : nameT (c :: t) 0 = (escT t).1 :: nameT (t.drop (escT t).2) 0 ∧ nameR (c :: t) 0 = nameR (t.drop (escT t).2) 0 :=
  ⟨by rw [nameT, if_neg (by simp [hp]), if_pos he, nameT_skip], by rw [nameR, if_neg (by simp [hp]), if_pos he, nameR_skip]⟩

def NameGo (w : World) (b : Nat) (v out : Value) (xs l : List Int) (wr : World) : Prop :=
  ∃ l' ns, At wr b v out xs l' ∧ Kept b w wr ∧ Wr w.heap.size (bytesZ ns) wr ∧ ns ++ nameT l' 0 = nameT l 0 ∧ nameR l' 0 = nameR l 0 ∧ ns.length + l'.length ≤ xs.length

set_option maxHeartbeats 1000000 in
theorem name_any (h : At w b v out xs l) (fx : Fine xs) :
    Calls Tryz.prog 56 #[.pointer (some ⟨b, 0, none⟩)] w fun e w' => e = .returned (.string (strOfNums (bytesZ (nameT l 0)))) ∧ At w' b v out xs (nameR l 0) ∧ Kept b w w' := by
  have hlt := at_lt h
  have hfx := fx.1
  go_enter Tryz.func56, Tryz.ntmps56
  go_wp2
  go_loopw [] (fun wr => NameGo w b v out xs l wr) (fun wr => xs.length - posOf wr b)
  case atStart =>
    refine ⟨l, [], at_below h ((Below.refl _ w).alloc (Nat.le_refl _) _), Kept.of_below ((Below.refl _ w).alloc (Nat.le_refl _) _), wr_new w, by simp, rfl, ?_⟩
    have := (at_suf h).length_le
    simpa using this
  case round =>
    obtain ⟨l', ns, hat, hk, hw, hT, hR, hlen⟩ := hrel
    have HP : Hid (xs.length - posOf wr b = l'.length) := at_pos hat
    have HT : Hid (ns ++ nameT l' 0 = nameT l 0) := hT
    have HR : Hid (nameR l' 0 = nameR l 0) := hR
    have hbz := bytesZ_len ns
    have hsz := hk.size
    clear hT hR
    have ha := ahead_w hat fx 0 0 rfl (by omega)
    have hes := fun n => escB_0 hat fx n
    cases hpz : partZ (hd l' 0)
    · cases hez : escB l'
      · rw [hez] at hes
        obtain ⟨e1, e2⟩ := nameT_stop hpz hez
        have HN : Hid (nameT l 0 = ns) := by
          have := HT.out
          rw [e1, List.append_nil] at this
          exact this.symm
        have HM : Hid (nameR l 0 = l') := by
          have := HR.out
          rw [e2] at this
          exact this.symm
        clear e1 e2
        generalize hd l' 0 = c0 at *
        go_wp2_with (go_at_call 46; fail)
        refine (ha).mono ?_
        rintro e w' ⟨rfl, m, rfl⟩
        go_wp2_with (go_at_call 53; fail)
        refine (part_any _ _).mono ?_
        rintro e w' ⟨rfl, rfl⟩
        go_wp2_with (go_at_call 54; fail)
        refine (hes _).mono ?_
        rintro e w' ⟨rfl, m2, rfl⟩
        have hw2 := wr_kept hw (Kept.drewN b wr m2) hlt
        go_wp2_with (go_at_call 52; fail)
        refine (wr_string w.heap.size (bytesZ ns) _ hw2).mono ?_
        rintro e w3 ⟨rfl, hb3⟩
        have h3 := at_low h (at_drew hat m2) hb3
        go_wp2
        go_ret
        exact ⟨by rw [HN.out]; rfl, by rw [HM.out]; exact h3, (hk.trans (Kept.drewN b wr m2)).then hb3⟩
      · obtain ⟨c, t, rfl⟩ : ∃ c t, l' = c :: t := by
          cases l' with
          | nil => exact absurd hez (by decide)
          | cons c t => exact ⟨c, t, rfl⟩
        have hen := fun n => escape_r c t hat rfl fx n
        have hch := escT_char (fun d hd => at_chars fx hat d (List.mem_cons_of_mem _ hd))
        have hc32 := char_32 hch
        have hdl : (t.drop (escT t).2).length ≤ t.length := by simp
        have e0 : hd (c :: t) 0 = c := rfl
        rw [e0] at ha hpz
        rw [hez] at hes
        go_wp2_with (go_at_call 46; fail)
        refine (ha).mono ?_
        rintro e w' ⟨rfl, m, rfl⟩
        go_wp2_with (go_at_call 53; fail)
        refine (part_any _ _).mono ?_
        rintro e w' ⟨rfl, rfl⟩
        go_wp2_with (go_at_call 54; fail)
        refine (hes _).mono ?_
        rintro e w' ⟨rfl, m2, rfl⟩
        go_wp2_with (go_at_call 73; fail)
        refine (hen _).mono ?_
        rintro e w2 ⟨rfl, h2, k2⟩
        have hw2 := wr_kept hw k2 hlt
        go_wp2_with (go_at_call 51; fail)
        refine (wr_rune w.heap.size (bytesZ ns) ((escT t).1) hc32.1 hc32.2 w2 hw2 (by omega)).mono ?_
        rintro e w3 ⟨⟨rn, rfl⟩, hw3, hb3⟩
        have h3 := at_low h h2 hb3
        go_wp2
        go_roundw
        case rel =>
          have hT := HT.out
          have hR := HR.out
          obtain ⟨e1, e2⟩ := nameT_esc hpz hez
          rw [e1] at hT
          rw [e2] at hR
          refine ⟨t.drop (escT t).2, ns ++ [(escT t).1], h3, (hk.trans k2).then hb3, ?_, ?_, hR, ?_⟩
          · rw [bytesZ_app, bytesZ_one]; exact hw3
          · rw [List.append_assoc]; exact hT
          · simp at hlen ⊢; omega
        case measure =>
          rw [HP.out, at_pos h3]
          simp only [List.length_cons]; omega
    · obtain ⟨c, t, rfl⟩ : ∃ c t, l' = c :: t := by
        cases l' with
        | nil => exact absurd hpz (by decide)
        | cons c t => exact ⟨c, t, rfl⟩
      have hnx := fun n => next_r hat fx c t rfl n
      have hch := at_chars fx hat c (by simp)
      have hc32 := char_32 hch
      have e0 : hd (c :: t) 0 = c := rfl
      rw [e0] at ha hpz
      go_wp2_with (go_at_call 46; fail)
      refine (ha).mono ?_
      rintro e w' ⟨rfl, m, rfl⟩
      go_wp2_with (go_at_call 53; fail)
      refine (part_any _ _).mono ?_
      rintro e w' ⟨rfl, rfl⟩
      go_wp2_with (go_at_call 49; fail)
      refine (hnx _).mono ?_
      rintro e w2 ⟨rfl, h2, k2⟩
      have hw2 := wr_kept hw k2 hlt
      go_wp2_with (go_at_call 51; fail)
      refine (wr_rune w.heap.size (bytesZ ns) (c) hc32.1 hc32.2 w2 hw2 (by omega)).mono ?_
      rintro e w3 ⟨⟨rn, rfl⟩, hw3, hb3⟩
      have h3 := at_low h h2 hb3
      go_wp2
      go_roundw
      case rel =>
        have hT := HT.out
        have hR := HR.out
        obtain ⟨e1, e2⟩ := nameT_part (t := t) hpz
        rw [e1] at hT
        rw [e2] at hR
        refine ⟨t, ns ++ [c], h3, (hk.trans k2).then hb3, ?_, ?_, hR, ?_⟩
        · rw [bytesZ_app, bytesZ_one]; exact hw3
        · rw [List.append_assoc]; exact hT
        · simp at hlen ⊢; omega
      case measure =>
        rw [HP.out, at_pos h3]
        simp only [List.length_cons]; omega
end
end Go.Proofs.YtdibldcnklgcjaaGreatDoor
