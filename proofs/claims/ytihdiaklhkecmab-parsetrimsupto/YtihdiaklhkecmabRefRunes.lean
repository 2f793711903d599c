/- What gouacheref01.Runes answers: the same as text.Runes. -/
import Derived.Test.YtihdiaklhkecmabChars
namespace Go.Proofs.Ytihdiaklhkecmab
open Go.RowKit

def prevZ (cs : List Int) (k : Nat) : Int := if k = 0 then 0 else cs.getD (k - 1) 0

theorem drop_cons {cs : List Int} {k : Nat} (h : k < cs.length) : cs.drop k = cs.getD k 0 :: cs.drop (k + 1) := by
  rw [List.drop_eq_getElem_cons h]
  simp [List.getD, h]

theorem prev_succ (cs : List Int) (k : Nat) : prevZ cs (k + 1) = cs.getD k 0 := by simp [prevZ]

theorem chars_le (s : ByteArray) : (chars s).length ≤ s.size := by
  have : ∀ f pos, (charsFrom s f pos).length ≤ f := by
    intro f
    induction f with
    | zero => intro pos; simp [charsFrom]
    | succ f ih =>
      intro pos
      unfold charsFrom
      split
      · have := ih (pos + (Utf8.decode s pos).2)
        simp only [List.length_cons]
        omega
      · simp
  exact this _ _

theorem ownsRow_base {w : World} {B B' : Nat} {e : TypeId} {v : Value} {n : Nat} {xs : List Value} (h : w.ownsRow B e 1 v n xs) (hb : B' ≤ B) : w.ownsRow B' e 1 v n xs := by
  refine ⟨h.1, ?_⟩
  rcases h.2 with hn | ⟨g, cap, cur, hv, hb2, rest⟩
  · exact .inl hn
  · exact .inr ⟨g, cap, cur, hv, Nat.le_trans hb hb2, rest⟩

set_option maxHeartbeats 2000000 in
set_option maxRecDepth 1000000 in
theorem refRunes_any (v : Value) (s : ByteArray) (w : World) (hs : s.size ≤ 1000000000) (hv : BytesAt w v s) :
    Calls Try.prog 22 #[v] w fun e w' => ∃ u, e = .returned u ∧ w'.ownsRow w.heap.size 21 1 u (runesZ s).length ((runesZ s).map (Value.int .i32)) ∧ Below w.heap.size w w' := by
  obtain ⟨i0, hi, hz0, hz1, hz2⟩ := info_parts Try.info21
  have hlen := chars_le s
  go_enter Try.func22, Try.ntmps22
  go_wp2_with (go_at_call 32; fail)
  refine (chars_any _ s _ hs hv).mono ?_
  rintro e w1 ⟨u, rfl, hown1, hb1⟩
  have hr := RowAt.own hown1
  clear hown1
  obtain ⟨cs, hcs⟩ : ∃ cs, chars s = cs := ⟨_, rfl⟩
  rw [hcs] at hr hlen
  have HC : Hid (runesZ s = normZ 0 cs) := by rw [← hcs]; rfl
  clear hcs
  obtain ⟨a, cap, rfl, hcap, hc⟩ := hr
  go_wp2
  go_loopw [3, 11] (fun out i wr => ∃ (k : Nat) (acc : List Int), k ≤ cs.length ∧ i = .int .i64 k ∧ wr.ownsRow w1.heap.size 21 1 out acc.length (acc.map (Value.int .i32)) ∧ Below w1.heap.size w1 wr ∧ acc ++ normZ (prevZ cs k) (cs.drop k) = normZ 0 cs ∧ acc.length ≤ k) (fun _ i _ => cs.length - (intOf i).toNat)
  case atStart => exact ⟨0, [], Nat.zero_le _, rfl, World.ownsRow_nil _ _ _ _, Below.refl _ _, rfl, Nat.le_refl _⟩
  case round =>
    obtain ⟨k, acc, hk, rfl, hown, hbel, hacc, hal⟩ := hrel
    by_cases hlt : k < cs.length
    · rw [drop_cons hlt] at hacc
      obtain ⟨b, off, rfl, hcell⟩ := hc (by omega)
      obtain ⟨c, hck⟩ : ∃ c, cs.getD k 0 = c := ⟨_, rfl⟩
      have c0 : wr.cell? ⟨b, off + k, none⟩ = some (.int .i32 c) := by
        have := hcell k hlt
        rw [hck] at this
        exact (hbel.cell (World.block_lt_of_cell? w1 _ this)).trans this
      rw [hck] at hacc
      have HP : Hid (prevZ cs (k + 1) = c) := by rw [← hck]; exact prev_succ cs k
      have hsz := hbel.size
      by_cases hskip : prevZ cs k = 13 ∧ c = 10
      · obtain ⟨hp13, rfl⟩ := hskip
        have hk0 : 0 < k := by
          rcases Nat.eq_zero_or_pos k with h | h
          · subst h; simp [prevZ] at hp13
          · exact h
        have c1 : wr.cell? ⟨b, off + (k - 1), none⟩ = some (.int .i32 13) := by
          have := hcell (k - 1) (by omega)
          rw [show cs.getD (k - 1) 0 = 13 by rw [← hp13, prevZ, if_neg (by omega)]] at this
          exact (hbel.cell (World.block_lt_of_cell? w1 _ this)).trans this
        have HA : Hid (acc ++ normZ 10 (cs.drop (k + 1)) = normZ 0 cs) := by
          show _ = _
          rw [← hacc, hp13]
          rfl
        clear hacc hp13 hck hcell hc
        go_wp2
        go_roundw
        case rel => exact ⟨k + 1, acc, by omega, by go_num, hown, hbel, by rw [HP.out]; exact HA.out, by omega⟩
        case measure => simp [intOf]; omega
      · have hn : normZ (prevZ cs k) (c :: cs.drop (k + 1)) = settledZ c :: normZ c (cs.drop (k + 1)) := by
          simp only [normZ, if_neg hskip]
        rw [hn] at hacc
        clear hn
        by_cases h10 : c = 10
        · subst h10
          have HA : Hid (acc ++ 10 :: normZ 10 (cs.drop (k + 1)) = normZ 0 cs) := hacc
          clear hacc
          by_cases hk0 : k = 0
          · have hkz : k ≤ 0 := by omega
            clear hskip hck hcell hc hk0
            go_wp2_with (at_builtin; go_must (refine wpList_append_own _ rfl _ _ 49 rfl w1.heap.size 21 i0 (.int .i32 0) 1 4 Try.underlying49 hi hz0 hz1 hz2 rfl (by decide) _ _ _ rfl (hown.alloc _) ⟨wr.heap.size, 0, none⟩ 1 1 [.int .i32 10] rfl rfl (cell_one_new _ _ _) (by intro u hu; simp at hu; subst hu; rfl) (by unfold maxLen; omega) (by omega) (by simp; omega) ?_); intro v' w5 hown5 hgrow5 _)
            go_roundw
            case rel => exact ⟨k + 1, acc ++ [10], by omega, by go_num, by simpa using hown5, (hbel.alloc hsz _).grown hgrow5 (by simp; omega) (fun k hk => (hown.lt k hk).1), by rw [← HA.out, HP.out]; simp, by simp; omega⟩
            case measure => simp [intOf]; omega
          · obtain ⟨x, hx⟩ : ∃ x, cs.getD (k - 1) 0 = x := ⟨_, rfl⟩
            have hx13 : ¬ x = 13 := by
              intro h
              exact hskip ⟨by rw [prevZ, if_neg hk0, hx, h], rfl⟩
            have c1 : wr.cell? ⟨b, off + (k - 1), none⟩ = some (.int .i32 x) := by
              have := hcell (k - 1) (by omega)
              rw [hx] at this
              exact (hbel.cell (World.block_lt_of_cell? w1 _ this)).trans this
            have hkp : 0 < k := by omega
            clear hskip hck hcell hc hx hk0
            go_wp2_with (at_builtin; go_must (refine wpList_append_own _ rfl _ _ 49 rfl w1.heap.size 21 i0 (.int .i32 0) 1 4 Try.underlying49 hi hz0 hz1 hz2 rfl (by decide) _ _ _ rfl (hown.alloc _) ⟨wr.heap.size, 0, none⟩ 1 1 [.int .i32 10] rfl rfl (cell_one_new _ _ _) (by intro u hu; simp at hu; subst hu; rfl) (by unfold maxLen; omega) (by omega) (by simp; omega) ?_); intro v' w5 hown5 hgrow5 _)
            go_roundw
            case rel => exact ⟨k + 1, acc ++ [10], by omega, by go_num, by simpa using hown5, (hbel.alloc hsz _).grown hgrow5 (by simp; omega) (fun k hk => (hown.lt k hk).1), by rw [← HA.out, HP.out]; simp, by simp; omega⟩
            case measure => simp [intOf]; omega
        · by_cases h13 : c = 13
          · subst h13
            have HA : Hid (acc ++ 10 :: normZ 13 (cs.drop (k + 1)) = normZ 0 cs) := hacc
            clear hacc hskip hck hcell hc h10
            go_wp2_with (at_builtin; go_must (refine wpList_append_own _ rfl _ _ 49 rfl w1.heap.size 21 i0 (.int .i32 0) 1 4 Try.underlying49 hi hz0 hz1 hz2 rfl (by decide) _ _ _ rfl (hown.alloc _) ⟨wr.heap.size, 0, none⟩ 1 1 [.int .i32 10] rfl rfl (cell_one_new _ _ _) (by intro u hu; simp at hu; subst hu; rfl) (by unfold maxLen; omega) (by omega) (by simp; omega) ?_); intro v' w5 hown5 hgrow5 _)
            go_roundw
            case rel => exact ⟨k + 1, acc ++ [10], by omega, by go_num, by simpa using hown5, (hbel.alloc hsz _).grown hgrow5 (by simp; omega) (fun k hk => (hown.lt k hk).1), by rw [← HA.out, HP.out]; simp, by simp; omega⟩
            case measure => simp [intOf]; omega
          · by_cases h12 : c = 12
            · subst h12
              have HA : Hid (acc ++ 10 :: normZ 12 (cs.drop (k + 1)) = normZ 0 cs) := hacc
              clear hacc hskip hck hcell hc h10 h13
              go_wp2_with (at_builtin; go_must (refine wpList_append_own _ rfl _ _ 49 rfl w1.heap.size 21 i0 (.int .i32 0) 1 4 Try.underlying49 hi hz0 hz1 hz2 rfl (by decide) _ _ _ rfl (hown.alloc _) ⟨wr.heap.size, 0, none⟩ 1 1 [.int .i32 10] rfl rfl (cell_one_new _ _ _) (by intro u hu; simp at hu; subst hu; rfl) (by unfold maxLen; omega) (by omega) (by simp; omega) ?_); intro v' w5 hown5 hgrow5 _)
              go_roundw
              case rel => exact ⟨k + 1, acc ++ [10], by omega, by go_num, by simpa using hown5, (hbel.alloc hsz _).grown hgrow5 (by simp; omega) (fun k hk => (hown.lt k hk).1), by rw [← HA.out, HP.out]; simp, by simp; omega⟩
              case measure => simp [intOf]; omega
            · by_cases h0 : c = 0
              · subst h0
                have HA : Hid (acc ++ 65533 :: normZ 0 (cs.drop (k + 1)) = normZ 0 cs) := hacc
                clear hacc hskip hck hcell hc h10 h13 h12
                go_wp2_with (at_builtin; go_must (refine wpList_append_own _ rfl _ _ 49 rfl w1.heap.size 21 i0 (.int .i32 0) 1 4 Try.underlying49 hi hz0 hz1 hz2 rfl (by decide) _ _ _ rfl (hown.alloc _) ⟨wr.heap.size, 0, none⟩ 1 1 [.int .i32 65533] rfl rfl (cell_one_new _ _ _) (by intro u hu; simp at hu; subst hu; rfl) (by unfold maxLen; omega) (by omega) (by simp; omega) ?_); intro v' w5 hown5 hgrow5 _)
                go_roundw
                case rel => exact ⟨k + 1, acc ++ [65533], by omega, by go_num, by simpa using hown5, (hbel.alloc hsz _).grown hgrow5 (by simp; omega) (fun k hk => (hown.lt k hk).1), by rw [← HA.out, HP.out]; simp, by simp; omega⟩
                case measure => simp [intOf]; omega
              · have e : settledZ c = c := by simp [settledZ, h13, h12, h0]
                rw [e] at hacc
                have HA : Hid (acc ++ c :: normZ c (cs.drop (k + 1)) = normZ 0 cs) := hacc
                have e10 : (c == 10) = false := beq_eq_false_iff_ne.2 h10
                have e13 : (c == 13) = false := beq_eq_false_iff_ne.2 h13
                have e12 : (c == 12) = false := beq_eq_false_iff_ne.2 h12
                have e0 : (c == 0) = false := beq_eq_false_iff_ne.2 h0
                clear hacc hskip hck hcell hc e h10 h13 h12 h0
                go_wp2_with (at_builtin; go_must (refine wpList_append_own _ rfl _ _ 49 rfl w1.heap.size 21 i0 (.int .i32 0) 1 4 Try.underlying49 hi hz0 hz1 hz2 rfl (by decide) _ _ _ rfl (hown.alloc _) ⟨wr.heap.size, 0, none⟩ 1 1 [.int .i32 c] rfl rfl (cell_one_new _ _ _) (by intro u hu; simp at hu; subst hu; rfl) (by unfold maxLen; omega) (by omega) (by simp; omega) ?_); intro v' w5 hown5 hgrow5 _)
                go_roundw
                case rel => exact ⟨k + 1, acc ++ [c], by omega, by go_num, by simpa using hown5, (hbel.alloc hsz _).grown hgrow5 (by simp; omega) (fun k hk => (hown.lt k hk).1), by rw [← HA.out, HP.out]; simp, by simp; omega⟩
                case measure => simp [intOf]; omega
    · have HR : Hid (acc = runesZ s) := by
        rw [List.drop_of_length_le (by omega)] at hacc
        simp only [normZ, List.append_nil] at hacc
        show _ = _
        rw [HC.out, hacc]
      clear hacc
      go_wp2
      go_ret
      have := HR.out
      subst this
      refine ⟨_, rfl, ?_, hb1.trans (hbel.mono hb1.size)⟩
      exact ownsRow_base hown hb1.size

end Go.Proofs.Ytihdiaklhkecmab
