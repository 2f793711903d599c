/- dom.Doc's mayMove. -/
import Derived.Test.YtecbgleidohjpabInsN
namespace Go.Proofs.Ytecbgleidohjpab.N
open Go.RowKit
set_option maxRecDepth 100000

/-- The first thing that is wrong with a Move of an element of so many levels. -/
def movErr (m : M) (id tg i : Int) (h : Nat) : Int := match m id, m tg with
  | some _, some q => if id ∈ ups m tg then 2 else if i < 0 ∨ ((rmv q.ks id).length : Int) < i then 3 else if 512 < (ups m tg).length + h then 5 else 0
  | _, _ => 1
theorem full_ex {uok : List (ByteArray × ByteArray) → Prop} {m : M} {nx : Int} {d : Int → Nat} (I : Inv uok m nx d) {id : Int} {e0 : El} (h0 : m id = some e0) : ∃ h, Full m id h := by
  have hend : lev m id 513 = [] := lev_end I h0 (by omega)
  have : ∀ n, lev m id n = [] → ∃ h, lev m id h = [] ∧ ∀ k, k < h → lev m id k ≠ [] := by
    intro n
    induction n using Nat.strongRecOn with
    | ind n ih =>
      intro hn
      by_cases hx : ∃ k, k < n ∧ lev m id k = []
      · obtain ⟨k, hk, hl⟩ := hx
        exact ih k hk hl
      · exact ⟨n, hn, fun k hk hl => hx ⟨k, hk, hl⟩⟩
  obtain ⟨h, h1, h2⟩ := this 513 hend
  refine ⟨h, ?_, h1, h2⟩
  rcases Nat.eq_zero_or_pos h with rfl | hp
  · simp [lev] at h1
  · exact hp
theorem Full.uniq {m : M} {id : Int} {h k : Nat} (F : Full m id h) (G : Full m id k) : h = k := by
  rcases Nat.lt_trichotomy h k with hl | hl | hl
  · exact absurd F.fin (G.on _ hl)
  · exact hl
  · exact absurd G.fin (F.on _ hl)
theorem rmv_len {l : List Int} {x : Int} (hn : l.Nodup) : (rmv l x).length = l.length - (if x ∈ l then 1 else 0) := by
  rw [rmv, ← hn.erase_eq_filter, List.length_erase]
  split <;> rfl
theorem room_len {uok : List (ByteArray × ByteArray) → Prop} {m : M} {nx : Int} {d : Int → Nat} (I : Inv uok m nx d) {id tg : Int} {e q : El} (he : m id = some e) (hq : m tg = some q) : (e.par = tg → 1 ≤ q.ks.length ∧ ((rmv q.ks id).length : Int) = q.ks.length - 1) ∧ (e.par ≠ tg → (rmv q.ks id).length = q.ks.length) := by
  have hiff : id ∈ q.ks ↔ e.par = tg := by
    constructor
    · intro hx
      obtain ⟨c, hc, hp⟩ := I.kid hq hx
      rw [he] at hc
      cases hc
      exact hp
    · intro hp
      have h1 : id ≠ 1 := by
        rintro rfl
        have := (I.parRoot he).2 rfl
        have := I.lo hq
        omega
      obtain ⟨p, hp', hk⟩ := I.par he h1
      rw [hp, hq] at hp'
      cases hp'
      exact hk
  constructor
  · intro hp
    have hm := hiff.2 hp
    have := List.length_pos_of_mem hm
    rw [rmv_len (I.nd hq), if_pos hm]
    omega
  · intro hp
    rw [rmv_none fun hx => hp (hiff.1 hx)]
set_option maxHeartbeats 4000000 in
theorem mayMove_none {uok : List (ByteArray × ByteArray) → Prop} {w : World} {dp : Value} {m : M} {nx : Int} {d : Int → Nat} (h : Dom w dp m nx) (_I : Inv uok m nx d) (id tg i : Int) (hno : m id = none ∨ m tg = none) : Calls Try.prog 32 #[dp, .int .i64 id, .int .i64 tg, .int .i64 i] w fun x w' => x = .returned (.int .i64 1) ∧ Below w.heap.size w w' := by
  cases h1 : m id with
  | none =>
    have hf := dom_find_none h h1
    clear h h1 hno
    go_enter Try.func32, Try.ntmps32
    go_wp2_with (go_at_call 24; fail)
    refine hf.mono ?_
    rintro x w1 ⟨rfl, hB⟩
    have HB := hid_mk hB
    clear hf hB
    go_wp2
    go_ret
    exact ⟨rfl, HB.out.alloc HB.out.size _⟩
  | some e =>
    have h2 : m tg = none := hno.resolve_left (by rw [h1]; simp)
    have hf := dom_find h h1
    have HF2 : Hid (∀ W, Below w.heap.size w W → _) := fun W hW => dom_find_none (h.keep hW) h2
    have HAL : Hid (∀ (W : World) o, Below w.heap.size w W → Below w.heap.size w (W.alloc o)) := fun W o hW => hW.alloc hW.size o
    clear h h1 h2 hno
    go_enter Try.func32, Try.ntmps32
    go_wp2_with (go_at_call 24; fail)
    refine hf.mono ?_
    rintro x w1 ⟨s, rfl, _, hB⟩
    have HB := hid_mk hB
    clear hf hB
    go_wp2_with (go_at_call 24; fail)
    refine (HF2.out _ (HAL.out _ _ HB.out)).mono ?_
    rintro x w2 ⟨rfl, hB2⟩
    have HB2 : Hid (Below w.heap.size w w2) := (HAL.out _ _ HB.out).trans (hB2.mono (HAL.out _ _ HB.out).size)
    clear HF2 hB2 HB
    go_wp2
    go_ret
    exact ⟨rfl, HAL.out _ _ HB2.out⟩
set_option maxHeartbeats 4000000 in
theorem mayMove_some {uok : List (ByteArray × ByteArray) → Prop} {w : World} {dp : Value} {m : M} {nx : Int} {d : Int → Nat} (h : Dom w dp m nx) (I : Inv uok m nx d) (id tg i : Int) {e q : El} (he : m id = some e) (hq : m tg = some q) {k : Nat} (F : Full m id k) : Calls Try.prog 32 #[dp, .int .i64 id, .int .i64 tg, .int .i64 i] w fun x w' => x = .returned (.int .i64 (movErr m id tg i k)) ∧ Below w.heap.size w w' := by
  have hf := dom_find h he
  have HF2 : Hid (∀ W, Below w.heap.size w W → _) := fun W hW => dom_find (h.keep hW) hq
  have HUP : Hid (∀ W, Below w.heap.size w W → Calls Try.prog 41 #[dp, .int .i64 tg] W fun x w' => ∃ a c, x = .returned (.slice a (ups m tg).length c) ∧ Hid (RowAt w' 1 a (ups m tg).length c (intsV (ups m tg))) ∧ Hid (Below W.heap.size W w')) := fun W hW => by
    refine (up_any (h.keep hW) I tg).mono ?_
    rintro x w' ⟨v, rfl, hown, hB⟩
    obtain ⟨a, c, rfl, hr, _⟩ := RowAt.of_owns hown (intsV_one _)
    exact ⟨a, c, rfl, hr, hB⟩
  have HUN : Hid (∀ W, Below w.heap.size w W → Calls Try.prog 26 #[dp, .int .i64 id] W fun x w' => ∃ v, x = .returned (.tuple #[v, .int .i64 (k : Nat)]) ∧ Below W.heap.size W w') := fun W hW => by
    refine (under_any (h.keep hW) I he).mono ?_
    rintro x w' ⟨v, k', rfl, hF, hown, hB⟩
    rw [hF.uniq F]
    exact ⟨v, rfl, hB⟩
  have hul : (ups m tg).length ≤ 512 := by rw [ups_len I hq]; exact I.top hq
  have hkb : k ≤ 513 := by
    refine Nat.le_of_not_lt fun hc => ?_
    have := F.on 513 hc
    exact this (lev_end I he (by omega))
  have hHAS : Hid (∀ W a c, RowAt W 1 a (ups m tg).length c (intsV (ups m tg)) → _) := fun W a c hr => hasI (w := W) hr (by omega) id
  obtain ⟨hr1, hr2⟩ := room_len I he hq
  have hql := I.ksLen hq
  have hnxb := I.nxb
  have HR : Hid (movErr m id tg i k = if (ups m tg).contains id = true then 2 else if i < 0 ∨ ((rmv q.ks id).length : Int) < i then 3 else if 512 < (ups m tg).length + k then 5 else 0) := by
    show _ = _
    simp only [movErr, he, hq]
    simp
  generalize movErr m id tg i k = R at *
  generalize (ups m tg).contains id = ct at *
  generalize (rmv q.ks id).length = RM at *
  generalize (ups m tg).length = U at *
  obtain ⟨b, tp, rfl, _⟩ := h
  clear I F he hq
  have HAL : Hid (∀ (W : World) o, Below w.heap.size w W → Below w.heap.size w (W.alloc o)) := fun W o hW => hW.alloc hW.size o
  go_enter Try.func32, Try.ntmps32
  go_wp2_with (go_at_call 24; fail)
  refine hf.mono ?_
  rintro x w1 ⟨s, rfl, hE1, hB1⟩
  have hpar := hE1.2.2.1
  rw [← hpar] at hr1 hr2
  have HB1 := hid_mk hB1
  obtain ⟨W1, hW1⟩ : ∃ W1, W1 = w1.alloc (.cells #[.int .i64 s.id, .string s.tag, .int .i64 s.par, .slice s.ka s.kn s.kc, .slice s.aa s.an s.ac] 41) := ⟨_, rfl⟩
  have hBW1 : Below w.heap.size w W1 := by rw [hW1]; exact HAL.out _ _ hB1
  have hN1 : NodeAt W1 w1.heap.size s := by rw [hW1]; exact heap_alloc_last w1 _
  have hf2 := HF2.out W1 hBW1
  have HW1 := hid_mk hW1
  clear hf hpar hE1 HF2 hB1 hW1
  go_wp2_with (go_at_call 24; fail)
  rw [← HW1.out]
  refine hf2.mono ?_
  rintro x w2 ⟨t, rfl, hE2, hB2⟩
  have hkn := hE2.kn
  rw [← hkn] at hr1 hr2 hql
  obtain ⟨W2, hW2⟩ : ∃ W2, W2 = w2.alloc (.cells #[.int .i64 t.id, .string t.tag, .int .i64 t.par, .slice t.ka t.kn t.kc, .slice t.aa t.an t.ac] 41) := ⟨_, rfl⟩
  have hB12 : Below W1.heap.size W1 W2 := by rw [hW2]; exact hB2.alloc hB2.size _
  have hBW2 : Below w.heap.size w W2 := hBW1.trans (hB12.mono hBW1.size)
  have hN2 : NodeAt W2 w2.heap.size t := by rw [hW2]; exact heap_alloc_last w2 _
  have hN12 : NodeAt W2 w1.heap.size s := (hB12.block _ (Array.getElem?_eq_some_iff.1 hN1).1).trans hN1
  have HW2 := hid_mk hW2
  clear hf2 hkn hE2 hB2 hW2 hN1 hB12
  go_upto_region 7 with (fail)
  rw [← HW2.out]
  obtain ⟨⟨_, _, _, k3, _⟩, _, _, _, _, _, hl2⟩ := hN2.cells
  obtain ⟨⟨_, _, j2, _, _⟩, _, _, _, _, _, hl1⟩ := hN12.cells
  have HFF : Hid (∀ W, Below W2.heap.size W2 W → W.cell? ⟨w2.heap.size, 3, none⟩ = some (.slice t.ka t.kn t.kc)) := fun W hW => (hW.cell (p := ⟨w2.heap.size, 3, none⟩) hl2).trans k3
  have HPP : Hid (∀ W, Below W2.heap.size W2 W → W.cell? ⟨w1.heap.size, 2, none⟩ = some (.int .i64 s.par)) := fun W hW => (hW.cell (p := ⟨w1.heap.size, 2, none⟩) hl1).trans j2
  have g0 : Below W2.heap.size W2 W2 := Below.refl _ _
  have gd : Below W2.heap.size W2 W2.drew := (Below.refl _ _).drew
  have HU2 : Hid (∀ W, Below W2.heap.size W2 W → Calls Try.prog 41 #[.pointer (some ⟨b, 0, none⟩), .int .i64 tg] W fun x w' => ∃ a c, x = .returned (.slice a U c) ∧ Hid (RowAt w' 1 a U c (intsV (ups m tg))) ∧ Below W2.heap.size W2 w') := fun W hW => by
    refine (HUP.out W (hBW2.trans (hW.mono hBW2.size))).mono ?_
    rintro x w' ⟨a, c, rfl, hr, hB⟩
    exact ⟨a, c, rfl, hr, hW.trans (hB.out.mono hW.size)⟩
  have HBW2 := hid_mk hBW2
  have hr1' := hid_mk hr1
  have hr2' := hid_mk hr2
  clear hN2 hN12 HUP hr1 hr2 hBW1 hBW2
  go_region_held3 (fun w' => w'.cell? ⟨w2.heap.size, 3, none⟩ = some (.slice t.ka t.kn t.kc))
    (first | with_reducible exact HFF.out _ g0 | with_reducible exact HFF.out _ gd | with_reducible exact HFF.out _ g3)
    (first
    | (go_at_call 41; with_reducible refine (HU2.out _ gd).mono ?_; rintro x w3 ⟨a, c, rfl, HRW, g3⟩))
  have j3 := HPP.out w3 g3
  have HB3 : Hid (Below w.heap.size w w3) := HBW2.out.trans (g3.mono HBW2.out.size)
  have hun := HUN.out w3 HB3.out
  have hhas := hHAS.out w3 a c HRW.out
  clear HU2 HFF HPP HUN hHAS k3 j2 gd g0 g3
  by_cases hpt : s.par = tg
  · obtain ⟨hp1, hp2⟩ := hr1'.out hpt
    have hb : (s.par == tg) = true := by simpa using hpt
    have HPT := hid_mk hpt
    clear hpt hr1' hr2'
    go_wp2_with (go_at_call 50; fail)
    refine hhas.mono ?_
    rintro x w3' ⟨rfl, rfl⟩
    clear hhas
    cases ct with
    | true =>
      have HRR : Hid (R = 2) := by have := HR.out; rw [if_pos rfl] at this; exact this
      go_wp2
      go_ret
      exact ⟨by rw [HRR.out]; rfl, HB3.out⟩
    | false =>
      have HR2 : Hid (R = if i < 0 ∨ (RM : Int) < i then 3 else if 512 < U + k then 5 else 0) := by have := HR.out; rw [if_neg (by decide)] at this; exact this
      by_cases h1 : i < 0
      · have HRR : Hid (R = 3) := by have := HR2.out; rw [if_pos (.inl h1)] at this; exact this
        go_wp2
        go_ret
        exact ⟨by rw [HRR.out]; rfl, HB3.out⟩
      · by_cases h2 : (t.kn : Int) - 1 < i
        · have HRR : Hid (R = 3) := by have := HR2.out; rw [if_pos (.inr (by omega))] at this; exact this
          go_wp2
          go_ret
          exact ⟨by rw [HRR.out]; rfl, HB3.out⟩
        · have HR3 : Hid (R = if 512 < U + k then 5 else 0) := by have := HR2.out; rw [if_neg (by omega)] at this; exact this
          go_wp2_with (go_at_call 26; fail)
          refine hun.mono ?_
          rintro x w4 ⟨v4, rfl, hB4⟩
          have HB4 : Hid (Below w.heap.size w w4) := HB3.out.trans (hB4.mono HB3.out.size)
          clear hun hB4 j3
          by_cases h5 : 512 < U + k
          · have HRR : Hid (R = 5) := by have := HR3.out; rw [if_pos h5] at this; exact this
            go_wp2
            go_ret
            exact ⟨by rw [HRR.out]; rfl, HB4.out⟩
          · have HRR : Hid (R = 0) := by have := HR3.out; rw [if_neg h5] at this; exact this
            go_wp2
            go_ret
            exact ⟨by rw [HRR.out]; rfl, HB4.out⟩
  · have hp2 := hr2'.out hpt
    have hb : (s.par == tg) = false := by simpa using hpt
    have hp3 : (RM : Int) ≤ t.kn ∧ (t.kn : Int) ≤ RM := by omega
    clear hr1' hr2' hp2
    go_wp2_with (go_at_call 50; fail)
    refine hhas.mono ?_
    rintro x w3' ⟨rfl, rfl⟩
    clear hhas
    cases ct with
    | true =>
      have HRR : Hid (R = 2) := by have := HR.out; rw [if_pos rfl] at this; exact this
      go_wp2
      go_ret
      exact ⟨by rw [HRR.out]; rfl, HB3.out⟩
    | false =>
      have HR2 : Hid (R = if i < 0 ∨ (RM : Int) < i then 3 else if 512 < U + k then 5 else 0) := by have := HR.out; rw [if_neg (by decide)] at this; exact this
      by_cases h1 : i < 0
      · have HRR : Hid (R = 3) := by have := HR2.out; rw [if_pos (.inl h1)] at this; exact this
        go_wp2
        go_ret
        exact ⟨by rw [HRR.out]; rfl, HB3.out⟩
      · by_cases h2 : (t.kn : Int) < i
        · have HRR : Hid (R = 3) := by have := HR2.out; rw [if_pos (.inr (by omega))] at this; exact this
          go_wp2
          go_ret
          exact ⟨by rw [HRR.out]; rfl, HB3.out⟩
        · have HR3 : Hid (R = if 512 < U + k then 5 else 0) := by have := HR2.out; rw [if_neg (by omega)] at this; exact this
          go_wp2_with (go_at_call 26; fail)
          refine hun.mono ?_
          rintro x w4 ⟨v4, rfl, hB4⟩
          have HB4 : Hid (Below w.heap.size w w4) := HB3.out.trans (hB4.mono HB3.out.size)
          clear hun hB4 j3
          by_cases h5 : 512 < U + k
          · have HRR : Hid (R = 5) := by have := HR3.out; rw [if_pos h5] at this; exact this
            go_wp2
            go_ret
            exact ⟨by rw [HRR.out]; rfl, HB4.out⟩
          · have HRR : Hid (R = 0) := by have := HR3.out; rw [if_neg h5] at this; exact this
            go_wp2
            go_ret
            exact ⟨by rw [HRR.out]; rfl, HB4.out⟩
theorem mayMove_any {uok : List (ByteArray × ByteArray) → Prop} {w : World} {dp : Value} {m : M} {nx : Int} {d : Int → Nat} (h : Dom w dp m nx) (I : Inv uok m nx d) (id tg i : Int) {k : Nat} (F : m id ≠ none → Full m id k) : Calls Try.prog 32 #[dp, .int .i64 id, .int .i64 tg, .int .i64 i] w fun x w' => x = .returned (.int .i64 (movErr m id tg i k)) ∧ Below w.heap.size w w' := by
  cases he : m id with
  | none =>
    have := mayMove_none h I id tg i (.inl he)
    simpa only [movErr, he] using this
  | some e =>
    cases hq : m tg with
    | none =>
      have := mayMove_none h I id tg i (.inr hq)
      simpa only [movErr, he, hq] using this
    | some q => exact mayMove_some h I id tg i he hq (F (by rw [he]; simp))

end Go.Proofs.Ytecbgleidohjpab.N
