/- What token.Tokens gives: the tokens of the characters. -/
import Derived.Test.YtdibldcnklgcjaaGreatDoorFits
namespace Go.Proofs.YtdibldcnklgcjaaGreatDoor
open Go.RowKit
set_option maxRecDepth 100000

theorem arr_cells {b : Nat} {w : World} (h : Arr b w) : w.cell? ⟨b + 1, 0, none⟩ = some (.func (.func 19) #[] #[]) ∧ w.cell? ⟨b + 1, 1, none⟩ = some (.func (.func 20) #[] #[]) ∧ w.cell? ⟨b + 1, 2, none⟩ = some (.func (.func 21) #[] #[]) ∧ w.cell? ⟨b + 1, 3, none⟩ = some (.func (.func 22) #[] #[]) ∧ w.cell? ⟨b + 1, 4, none⟩ = some (.func (.func 23) #[] #[]) ∧ w.cell? ⟨b + 1, 5, none⟩ = some (.func (.func 24) #[] #[]) ∧ w.cell? ⟨b + 1, 6, none⟩ = some (.func (.func 25) #[] #[]) ∧ w.cell? ⟨b + 1, 7, none⟩ = some (.func (.func 26) #[] #[]) ∧ w.cell? ⟨b + 1, 8, none⟩ = some (.func (.func 27) #[] #[]) := by
  have h' : w.heap[b + 1]? = some (.cells waysV 75 (0, 0)) := h
  refine ⟨?_, ?_, ?_, ?_, ?_, ?_, ?_, ?_, ?_⟩ <;> simp [World.cell?, h', waysV]

def TokGo (w : World) (b : Nat) (v : Value) (xs : List Int) (g : Nat) (wr : World) : Prop :=
  ∃ l' out ts, l'.length ≤ g ∧ St wr b v out xs l' ts ∧ Below b w wr ∧ ts ++ toks l' = toks xs ∧ ts.length + l'.length ≤ xs.length
def WayGo (w : World) (b : Nat) (v out : Value) (xs l' : List Int) (ts : List Tok) (g : Nat) (s : Value) (wr : World) : Prop :=
  ∃ (k : Nat) (q : Int), k + g = 9 ∧ q = k ∧ s = .int .i64 q ∧ St wr b v out xs l' ts ∧ Below b w wr ∧ noneFits l' k

theorem none_more {l : List Int} {k : Nat} (h : noneFits l k) (hc : fits l k = false) : noneFits l (k + 1) := by
  intro j hj
  rcases Nat.lt_or_ge j k with h1 | h1
  · exact h j h1
  · have : j = k := by omega
    rw [this]; exact hc
theorem tok_more {l' xs : List Int} {ts : List Tok} (hne : l' ≠ []) (ht : ts ++ toks l' = toks xs) : (ts ++ (oneZ l').1.toList) ++ toks (oneZ l').2 = toks xs ∧ (oneZ l').2.length < l'.length := by
  obtain ⟨c, t, rfl⟩ := List.exists_cons_of_ne_nil hne
  refine ⟨by rw [List.append_assoc, ← toks_cons, ht], ?_⟩
  have := (one_less c t).length_le
  simp only [List.length_cons]
  omega

theorem ways_index (w : World) : (Instr.index 75 (.agg #[(.func (.func 19) #[] #[]), (.func (.func 20) #[] #[]), (.func (.func 21) #[] #[]), (.func (.func 22) #[] #[]), (.func (.func 23) #[] #[]), (.func (.func 24) #[] #[]), (.func (.func 25) #[] #[]), (.func (.func 26) #[] #[]), (.func (.func 27) #[] #[])]) (.int .i64 0)).run Tryz.prog w = .ok (.func (.func 19) #[] #[]) w ∧ (Instr.index 75 (.agg #[(.func (.func 19) #[] #[]), (.func (.func 20) #[] #[]), (.func (.func 21) #[] #[]), (.func (.func 22) #[] #[]), (.func (.func 23) #[] #[]), (.func (.func 24) #[] #[]), (.func (.func 25) #[] #[]), (.func (.func 26) #[] #[]), (.func (.func 27) #[] #[])]) (.int .i64 1)).run Tryz.prog w = .ok (.func (.func 20) #[] #[]) w ∧ (Instr.index 75 (.agg #[(.func (.func 19) #[] #[]), (.func (.func 20) #[] #[]), (.func (.func 21) #[] #[]), (.func (.func 22) #[] #[]), (.func (.func 23) #[] #[]), (.func (.func 24) #[] #[]), (.func (.func 25) #[] #[]), (.func (.func 26) #[] #[]), (.func (.func 27) #[] #[])]) (.int .i64 2)).run Tryz.prog w = .ok (.func (.func 21) #[] #[]) w ∧ (Instr.index 75 (.agg #[(.func (.func 19) #[] #[]), (.func (.func 20) #[] #[]), (.func (.func 21) #[] #[]), (.func (.func 22) #[] #[]), (.func (.func 23) #[] #[]), (.func (.func 24) #[] #[]), (.func (.func 25) #[] #[]), (.func (.func 26) #[] #[]), (.func (.func 27) #[] #[])]) (.int .i64 3)).run Tryz.prog w = .ok (.func (.func 22) #[] #[]) w ∧ (Instr.index 75 (.agg #[(.func (.func 19) #[] #[]), (.func (.func 20) #[] #[]), (.func (.func 21) #[] #[]), (.func (.func 22) #[] #[]), (.func (.func 23) #[] #[]), (.func (.func 24) #[] #[]), (.func (.func 25) #[] #[]), (.func (.func 26) #[] #[]), (.func (.func 27) #[] #[])]) (.int .i64 4)).run Tryz.prog w = .ok (.func (.func 23) #[] #[]) w ∧ (Instr.index 75 (.agg #[(.func (.func 19) #[] #[]), (.func (.func 20) #[] #[]), (.func (.func 21) #[] #[]), (.func (.func 22) #[] #[]), (.func (.func 23) #[] #[]), (.func (.func 24) #[] #[]), (.func (.func 25) #[] #[]), (.func (.func 26) #[] #[]), (.func (.func 27) #[] #[])]) (.int .i64 5)).run Tryz.prog w = .ok (.func (.func 24) #[] #[]) w ∧ (Instr.index 75 (.agg #[(.func (.func 19) #[] #[]), (.func (.func 20) #[] #[]), (.func (.func 21) #[] #[]), (.func (.func 22) #[] #[]), (.func (.func 23) #[] #[]), (.func (.func 24) #[] #[]), (.func (.func 25) #[] #[]), (.func (.func 26) #[] #[]), (.func (.func 27) #[] #[])]) (.int .i64 6)).run Tryz.prog w = .ok (.func (.func 25) #[] #[]) w ∧ (Instr.index 75 (.agg #[(.func (.func 19) #[] #[]), (.func (.func 20) #[] #[]), (.func (.func 21) #[] #[]), (.func (.func 22) #[] #[]), (.func (.func 23) #[] #[]), (.func (.func 24) #[] #[]), (.func (.func 25) #[] #[]), (.func (.func 26) #[] #[]), (.func (.func 27) #[] #[])]) (.int .i64 7)).run Tryz.prog w = .ok (.func (.func 26) #[] #[]) w ∧ (Instr.index 75 (.agg #[(.func (.func 19) #[] #[]), (.func (.func 20) #[] #[]), (.func (.func 21) #[] #[]), (.func (.func 22) #[] #[]), (.func (.func 23) #[] #[]), (.func (.func 24) #[] #[]), (.func (.func 25) #[] #[]), (.func (.func 26) #[] #[]), (.func (.func 27) #[] #[])]) (.int .i64 8)).run Tryz.prog w = .ok (.func (.func 27) #[] #[]) w := ⟨by kernel_rfl, by kernel_rfl, by kernel_rfl, by kernel_rfl, by kernel_rfl, by kernel_rfl, by kernel_rfl, by kernel_rfl, by kernel_rfl⟩

set_option maxHeartbeats 4000000 in
set_option maxRecDepth 100000 in
theorem tokens_any (a : Option Addr) (cap : Nat) (xs : List Int) (w : World) (fx : Fine xs) (hr : RowAt .i32 w (.slice a xs.length cap) xs) (hlow : ∀ ad, a = some ad → ad.block < w.heap.size) :
    Calls Tryz.prog 11 #[.slice a xs.length cap] w fun e w' => ∃ out, e = .returned out ∧ Outs w.heap.size w' out (toks xs) ∧ Below w.heap.size w w' := by
  have hst0 := st_start a cap w hr hlow
  have hbl0 : Below w.heap.size w ((w.alloc (.cells #[.slice a xs.length cap, .int .i64 0, .slice none 0 0] 72)).alloc (.cells waysV 75)) := ((Below.refl _ w).alloc (Nat.le_refl _) _).alloc (by simp) _
  have hfx := fx.1
  have hwv : waysV = #[(.func (.func 19) #[] #[]), (.func (.func 20) #[] #[]), (.func (.func 21) #[] #[]), (.func (.func 22) #[] #[]), (.func (.func 23) #[] #[]), (.func (.func 24) #[] #[]), (.func (.func 25) #[] #[]), (.func (.func 26) #[] #[]), (.func (.func 27) #[] #[])] := rfl
  rw [hwv] at hst0 hbl0
  clear hwv hr hlow
  go_enter Tryz.func11, Tryz.ntmps11
  go_wp2
  go_step3
  go_wp2
  go_step3
  go_wp2
  generalize ((w.alloc (.cells #[.slice a xs.length cap, .int .i64 0, .slice none 0 0] 72)).alloc (.cells #[(.func (.func 19) #[] #[]), (.func (.func 20) #[] #[]), (.func (.func 21) #[] #[]), (.func (.func 22) #[] #[]), (.func (.func 23) #[] #[]), (.func (.func 24) #[] #[]), (.func (.func 25) #[] #[]), (.func (.func 26) #[] #[]), (.func (.func 27) #[] #[])] 75)) = w0 at *
  go_loopg [] xs.length (fun g wx => TokGo w w.heap.size (.slice a xs.length cap) xs g wx)
  case atStart => exact ⟨xs, _, [], Nat.le_refl _, hst0, hbl0, rfl, by simp⟩
  case round =>
    obtain ⟨l', out, ts, hlg, hst, hbw, hto, hln⟩ := hrel
    have HT : Hid (ts ++ toks l' = toks xs) := hto
    clear hto hst0 hbl0
    have hdn := done_w hst.1 fx
    by_cases hne : l' = []
    · subst hne
      have HN : Hid (ts = toks xs) := by
        have := HT.out
        have e : toks [] = [] := rfl
        rw [e, List.append_nil] at this
        exact this
      go_wp2_with (go_at_call 28; fail)
      refine (hdn).mono ?_
      rintro e w' ⟨rfl, m, rfl⟩
      obtain ⟨s2, q2⟩ := st_drew hst m
      obtain ⟨p, hb⟩ := at_heap s2.1
      obtain ⟨hc0, hc1, hc2⟩ := cells3 hb
      clear hb
      go_wp2
      rw [Exit.noGoto_ret]
      go_ret
      exact ⟨out, rfl, by rw [← HN.out]; exact s2.2.1, hbw.trans q2⟩
    · have ed : decide (l' = []) = false := by simpa using hne
      rw [ed] at hdn
      obtain ⟨f0, f1, f2, f3, f4, f5, f6, f7, f8⟩ := arr_cells hst.2.2.2
      go_wp2_with (go_at_call 28; fail)
      refine (hdn).mono ?_
      rintro e w' ⟨rfl, m, rfl⟩
      obtain ⟨s2, q2⟩ := st_drew hst m
      obtain ⟨g, rfl⟩ : ∃ g, gk = g + 1 := ⟨gk - 1, by
        have : 0 < l'.length := List.length_pos_iff.2 hne
        omega⟩
      have hts : ts.length ≤ 1000000000 := by omega
      have hmore := tok_more hne HT.out
      have HM : Hid ((ts ++ (oneZ l').1.toList) ++ toks (oneZ l').2 = toks xs ∧ (oneZ l').2.length < l'.length) := hmore
      have ho1 : (oneZ l').1.toList.length ≤ 1 := by cases (oneZ l').1 <;> simp
      have B2 := hbw.trans q2
      clear hmore hst hbw q2 hdn
      go_wp2
      go_loopg [13] 9 (fun g s wx => WayGo w w.heap.size (.slice a xs.length cap) out xs l' ts g s wx)
      case atStart => exact ⟨0, 0, rfl, rfl, rfl, s2, B2, fun j hj => by omega⟩
      case round =>
        obtain ⟨k, q, hkg, hqk, rfl, hst2, hbw2, hnf⟩ := hrel
        clear s2 B2
        obtain ⟨x0, x1, x2, x3, x4, x5, x6, x7, x8⟩ := ways_index wr
        rcases (show k = 9 ∨ k = 0 ∨ k = 1 ∨ k = 2 ∨ k = 3 ∨ k = 4 ∨ k = 5 ∨ k = 6 ∨ k = 7 ∨ k = 8 by omega) with rfl | rfl | rfl | rfl | rfl | rfl | rfl | rfl | rfl | rfl
        · exact absurd (hnf 8 (by omega)) (by simp [fits])
        · obtain ⟨g2, rfl⟩ : ∃ g2, gk = g2 + 1 := ⟨gk - 1, by omega⟩
          have hw := way_0 hst2 fx hts hnf hne
          obtain rfl : q = 0 := by omega
          clear hqk
          have HG : Hid (0 + (g2 + 1) = 9) := hkg
          clear hkg
          cases hfit : fits l' 0
          · rw [hfit] at hw
            go_wp2_with (go_at_call 19; fail)
            refine (hw).mono ?_
            rintro e w5 ⟨rfl, hp1, hp2, hp3⟩
            go_wp2
            go_roundg g2
            case measure => omega
            case rel => exact ⟨1, 1, by have := HG.out; omega, rfl, rfl, hp1 hfit, hbw2.trans hp3, none_more hnf hfit⟩
          · rw [hfit] at hw
            go_wp2_with (go_at_call 19; fail)
            refine (hw).mono ?_
            rintro e w5 ⟨rfl, hp1, hp2, hp3⟩
            obtain ⟨out', s6⟩ := hp2 hfit
            go_wp2
            go_roundg g
            case measure => omega
            case rel =>
              obtain ⟨hm1, hm2⟩ := HM.out
              exact ⟨(oneZ l').2, out', ts ++ (oneZ l').1.toList, by omega, s6, hbw2.trans hp3, hm1, by rw [List.length_append]; omega⟩
        · obtain ⟨g2, rfl⟩ : ∃ g2, gk = g2 + 1 := ⟨gk - 1, by omega⟩
          have hw := way_1 hst2 fx hts hnf hne
          obtain rfl : q = 1 := by omega
          clear hqk
          have HG : Hid (1 + (g2 + 1) = 9) := hkg
          clear hkg
          cases hfit : fits l' 1
          · rw [hfit] at hw
            go_wp2_with (go_at_call 20; fail)
            refine (hw).mono ?_
            rintro e w5 ⟨rfl, hp1, hp2, hp3⟩
            go_wp2
            go_roundg g2
            case measure => omega
            case rel => exact ⟨2, 2, by have := HG.out; omega, rfl, rfl, hp1 hfit, hbw2.trans hp3, none_more hnf hfit⟩
          · rw [hfit] at hw
            go_wp2_with (go_at_call 20; fail)
            refine (hw).mono ?_
            rintro e w5 ⟨rfl, hp1, hp2, hp3⟩
            obtain ⟨out', s6⟩ := hp2 hfit
            go_wp2
            go_roundg g
            case measure => omega
            case rel =>
              obtain ⟨hm1, hm2⟩ := HM.out
              exact ⟨(oneZ l').2, out', ts ++ (oneZ l').1.toList, by omega, s6, hbw2.trans hp3, hm1, by rw [List.length_append]; omega⟩
        · obtain ⟨g2, rfl⟩ : ∃ g2, gk = g2 + 1 := ⟨gk - 1, by omega⟩
          have hw := way_2 hst2 fx hts hnf hne
          obtain rfl : q = 2 := by omega
          clear hqk
          have HG : Hid (2 + (g2 + 1) = 9) := hkg
          clear hkg
          cases hfit : fits l' 2
          · rw [hfit] at hw
            go_wp2_with (go_at_call 21; fail)
            refine (hw).mono ?_
            rintro e w5 ⟨rfl, hp1, hp2, hp3⟩
            go_wp2
            go_roundg g2
            case measure => omega
            case rel => exact ⟨3, 3, by have := HG.out; omega, rfl, rfl, hp1 hfit, hbw2.trans hp3, none_more hnf hfit⟩
          · rw [hfit] at hw
            go_wp2_with (go_at_call 21; fail)
            refine (hw).mono ?_
            rintro e w5 ⟨rfl, hp1, hp2, hp3⟩
            obtain ⟨out', s6⟩ := hp2 hfit
            go_wp2
            go_roundg g
            case measure => omega
            case rel =>
              obtain ⟨hm1, hm2⟩ := HM.out
              exact ⟨(oneZ l').2, out', ts ++ (oneZ l').1.toList, by omega, s6, hbw2.trans hp3, hm1, by rw [List.length_append]; omega⟩
        · obtain ⟨g2, rfl⟩ : ∃ g2, gk = g2 + 1 := ⟨gk - 1, by omega⟩
          have hw := way_3 hst2 fx hts hnf hne
          obtain rfl : q = 3 := by omega
          clear hqk
          have HG : Hid (3 + (g2 + 1) = 9) := hkg
          clear hkg
          cases hfit : fits l' 3
          · rw [hfit] at hw
            go_wp2_with (go_at_call 22; fail)
            refine (hw).mono ?_
            rintro e w5 ⟨rfl, hp1, hp2, hp3⟩
            go_wp2
            go_roundg g2
            case measure => omega
            case rel => exact ⟨4, 4, by have := HG.out; omega, rfl, rfl, hp1 hfit, hbw2.trans hp3, none_more hnf hfit⟩
          · rw [hfit] at hw
            go_wp2_with (go_at_call 22; fail)
            refine (hw).mono ?_
            rintro e w5 ⟨rfl, hp1, hp2, hp3⟩
            obtain ⟨out', s6⟩ := hp2 hfit
            go_wp2
            go_roundg g
            case measure => omega
            case rel =>
              obtain ⟨hm1, hm2⟩ := HM.out
              exact ⟨(oneZ l').2, out', ts ++ (oneZ l').1.toList, by omega, s6, hbw2.trans hp3, hm1, by rw [List.length_append]; omega⟩
        · obtain ⟨g2, rfl⟩ : ∃ g2, gk = g2 + 1 := ⟨gk - 1, by omega⟩
          have hw := way_4 hst2 fx hts hnf hne
          obtain rfl : q = 4 := by omega
          clear hqk
          have HG : Hid (4 + (g2 + 1) = 9) := hkg
          clear hkg
          cases hfit : fits l' 4
          · rw [hfit] at hw
            go_wp2_with (go_at_call 23; fail)
            refine (hw).mono ?_
            rintro e w5 ⟨rfl, hp1, hp2, hp3⟩
            go_wp2
            go_roundg g2
            case measure => omega
            case rel => exact ⟨5, 5, by have := HG.out; omega, rfl, rfl, hp1 hfit, hbw2.trans hp3, none_more hnf hfit⟩
          · rw [hfit] at hw
            go_wp2_with (go_at_call 23; fail)
            refine (hw).mono ?_
            rintro e w5 ⟨rfl, hp1, hp2, hp3⟩
            obtain ⟨out', s6⟩ := hp2 hfit
            go_wp2
            go_roundg g
            case measure => omega
            case rel =>
              obtain ⟨hm1, hm2⟩ := HM.out
              exact ⟨(oneZ l').2, out', ts ++ (oneZ l').1.toList, by omega, s6, hbw2.trans hp3, hm1, by rw [List.length_append]; omega⟩
        · obtain ⟨g2, rfl⟩ : ∃ g2, gk = g2 + 1 := ⟨gk - 1, by omega⟩
          have hw := way_5 hst2 fx hts hnf hne
          obtain rfl : q = 5 := by omega
          clear hqk
          have HG : Hid (5 + (g2 + 1) = 9) := hkg
          clear hkg
          cases hfit : fits l' 5
          · rw [hfit] at hw
            go_wp2_with (go_at_call 24; fail)
            refine (hw).mono ?_
            rintro e w5 ⟨rfl, hp1, hp2, hp3⟩
            go_wp2
            go_roundg g2
            case measure => omega
            case rel => exact ⟨6, 6, by have := HG.out; omega, rfl, rfl, hp1 hfit, hbw2.trans hp3, none_more hnf hfit⟩
          · rw [hfit] at hw
            go_wp2_with (go_at_call 24; fail)
            refine (hw).mono ?_
            rintro e w5 ⟨rfl, hp1, hp2, hp3⟩
            obtain ⟨out', s6⟩ := hp2 hfit
            go_wp2
            go_roundg g
            case measure => omega
            case rel =>
              obtain ⟨hm1, hm2⟩ := HM.out
              exact ⟨(oneZ l').2, out', ts ++ (oneZ l').1.toList, by omega, s6, hbw2.trans hp3, hm1, by rw [List.length_append]; omega⟩
        · obtain ⟨g2, rfl⟩ : ∃ g2, gk = g2 + 1 := ⟨gk - 1, by omega⟩
          have hw := way_6 hst2 fx hts hnf hne
          obtain rfl : q = 6 := by omega
          clear hqk
          have HG : Hid (6 + (g2 + 1) = 9) := hkg
          clear hkg
          cases hfit : fits l' 6
          · rw [hfit] at hw
            go_wp2_with (go_at_call 25; fail)
            refine (hw).mono ?_
            rintro e w5 ⟨rfl, hp1, hp2, hp3⟩
            go_wp2
            go_roundg g2
            case measure => omega
            case rel => exact ⟨7, 7, by have := HG.out; omega, rfl, rfl, hp1 hfit, hbw2.trans hp3, none_more hnf hfit⟩
          · rw [hfit] at hw
            go_wp2_with (go_at_call 25; fail)
            refine (hw).mono ?_
            rintro e w5 ⟨rfl, hp1, hp2, hp3⟩
            obtain ⟨out', s6⟩ := hp2 hfit
            go_wp2
            go_roundg g
            case measure => omega
            case rel =>
              obtain ⟨hm1, hm2⟩ := HM.out
              exact ⟨(oneZ l').2, out', ts ++ (oneZ l').1.toList, by omega, s6, hbw2.trans hp3, hm1, by rw [List.length_append]; omega⟩
        · obtain ⟨g2, rfl⟩ : ∃ g2, gk = g2 + 1 := ⟨gk - 1, by omega⟩
          have hw := way_7 hst2 fx hts hnf hne
          obtain rfl : q = 7 := by omega
          clear hqk
          have HG : Hid (7 + (g2 + 1) = 9) := hkg
          clear hkg
          cases hfit : fits l' 7
          · rw [hfit] at hw
            go_wp2_with (go_at_call 26; fail)
            refine (hw).mono ?_
            rintro e w5 ⟨rfl, hp1, hp2, hp3⟩
            go_wp2
            go_roundg g2
            case measure => omega
            case rel => exact ⟨8, 8, by have := HG.out; omega, rfl, rfl, hp1 hfit, hbw2.trans hp3, none_more hnf hfit⟩
          · rw [hfit] at hw
            go_wp2_with (go_at_call 26; fail)
            refine (hw).mono ?_
            rintro e w5 ⟨rfl, hp1, hp2, hp3⟩
            obtain ⟨out', s6⟩ := hp2 hfit
            go_wp2
            go_roundg g
            case measure => omega
            case rel =>
              obtain ⟨hm1, hm2⟩ := HM.out
              exact ⟨(oneZ l').2, out', ts ++ (oneZ l').1.toList, by omega, s6, hbw2.trans hp3, hm1, by rw [List.length_append]; omega⟩
        · obtain ⟨g2, rfl⟩ : ∃ g2, gk = g2 + 1 := ⟨gk - 1, by omega⟩
          have hw := way_8 hst2 fx hts hnf hne
          obtain rfl : q = 8 := by omega
          clear hqk
          have HG : Hid (8 + (g2 + 1) = 9) := hkg
          clear hkg
          cases hfit : fits l' 8
          · exact absurd hfit (by simp [fits])
          · rw [hfit] at hw
            go_wp2_with (go_at_call 27; fail)
            refine (hw).mono ?_
            rintro e w5 ⟨rfl, hp1, hp2, hp3⟩
            obtain ⟨out', s6⟩ := hp2 hfit
            go_wp2
            go_roundg g
            case measure => omega
            case rel =>
              obtain ⟨hm1, hm2⟩ := HM.out
              exact ⟨(oneZ l').2, out', ts ++ (oneZ l').1.toList, by omega, s6, hbw2.trans hp3, hm1, by rw [List.length_append]; omega⟩
end Go.Proofs.YtdibldcnklgcjaaGreatDoor
